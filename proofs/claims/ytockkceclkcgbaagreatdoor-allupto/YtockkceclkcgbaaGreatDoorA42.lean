/- The contract of the document's Wake: the time is 0, nothing is leased, every message may be delivered. -/
import Derived.Test.YtockkceclkcgbaaGreatDoorA40
import Derived.BigRegion
import Derived.Deep.RegionHeld3
namespace Go.Proofs.YtockkceclkcgbaaGreatDoor
open Go.RowKit

/-- Wake has reached message n of group k -/
def wakeTo (m : MQ) (k n : Nat) : MQ := { m with time := 0, groups := m.groups.mapIdx (fun j g => if j < k then wakeG g else if j = k then { g with items := mixI (g.items.map wakeI) g.items n } else g) }
theorem wakeTo_group {m : MQ} {k n j : Nat} : (wakeTo m k n).groups[j]? = (m.groups[j]?).map (fun g => if j < k then wakeG g else if j = k then { g with items := mixI (g.items.map wakeI) g.items n } else g) := by simp [wakeTo]
theorem wakeTo_glen {m : MQ} {k n : Nat} : (wakeTo m k n).groups.length = m.groups.length := by simp [wakeTo]
theorem mq_groups {a b : MQ} (h1 : a.c = b.c) (h2 : a.bodies = b.bodies) (h3 : a.floor = b.floor) (h4 : a.time = b.time) (h5 : a.changes = b.changes) (h : ∀ j : Nat, a.groups[j]? = b.groups[j]?) : a = b := by
  obtain ⟨a1, a2, a3, a4, a5, a6⟩ := a
  obtain ⟨b1, b2, b3, b4, b5, b6⟩ := b
  simp only at h1 h2 h3 h4 h5
  subst h1 h2 h3 h4 h5
  have : a4 = b4 := List.ext_getElem? h
  rw [this]
theorem wakeTo_zero (m : MQ) : wakeTo m 0 0 = { m with time := 0 } := mq_groups rfl rfl rfl rfl rfl (fun j => by
  rw [wakeTo_group]
  cases hj : m.groups[j]? with
  | none => rfl
  | some g => by_cases h : j = 0 <;> simp [h, mixI_zero])
theorem wakeTo_next {m : MQ} {k n : Nat} {g : MG} (hg : m.groups[k]? = some g) (hn : n = g.items.length) : wakeTo m k n = wakeTo m (k + 1) 0 := mq_groups rfl rfl rfl rfl rfl (fun j => by
  rw [wakeTo_group, wakeTo_group]
  cases hj : m.groups[j]? with
  | none => rfl
  | some g' =>
    by_cases h1 : j < k
    · simp [h1, Nat.lt_succ_of_lt h1]
    · by_cases h2 : j = k
      · subst h2
        rw [hg] at hj
        cases hj
        have e : mixI (g.items.map wakeI) g.items n = g.items.map wakeI := by
          rw [hn, show g.items.length = (g.items.map wakeI).length by simp]
          exact mixI_all _ _ (by simp)
        simp [e, wakeG]
      · have h3 : ¬ j < k + 1 := by omega
        by_cases h4 : j = k + 1
        · subst h4; simp [h1, mixI_zero]
        · simp [h1, h2, h3, h4])
theorem wakeTo_end (m : MQ) : wakeTo m m.groups.length 0 = wakeM m m.changes := mq_groups rfl rfl rfl rfl rfl (fun j => by
  rw [wakeTo_group, wakeM_group]
  cases hj : m.groups[j]? with
  | none => rfl
  | some g =>
    have h1 := (List.getElem?_eq_some_iff.1 hj).1
    simp [h1])
theorem wakeTo_at {m : MQ} {k n : Nat} {g : MG} (hg : m.groups[k]? = some g) : (wakeTo m k n).groups[k]? = some { g with items := mixI (g.items.map wakeI) g.items n } := by rw [wakeTo_group, hg]; simp
theorem wakeTo_step {m : MQ} {k n : Nat} {g : MG} {x : It} (hg : m.groups[k]? = some g) (hx : g.items[n]? = some x) : ((wakeTo m k n).setI k n { x with till := 0 }).setI k n (wakeI x) = wakeTo m k (n + 1) := by
  rw [setI_twice]
  refine mq_groups rfl rfl rfl rfl rfl (fun j => ?_)
  rw [setI_group, wakeTo_group, wakeTo_group]
  cases hj : m.groups[j]? with
  | none => rfl
  | some g' =>
    by_cases h2 : j = k
    · subst h2
      rw [hg] at hj
      cases hj
      have e := mixI_succ (g.items.map wakeI) g.items n (wakeI x) (by simp) (by simp [hx])
      simp [e]
    · have h3 : ¬ k = j := fun e => h2 e.symm
      simp [h2, h3]
theorem wakeTo_ok {m : MQ} {k n : Nat} (h : m.Ok) (hn : ∀ g, m.groups[k]? = some g → n ≤ g.items.length) : (wakeTo m k n).Ok := by
  have ht := h.time
  have key : ∀ g ∈ (wakeTo m k n).groups, ∃ g0 ∈ m.groups, g.items.length = g0.items.length ∧ g.dead = g0.dead ∧ g.start = g0.start := by
    intro g hg
    obtain ⟨j, hj⟩ := List.getElem?_of_mem hg
    rw [wakeTo_group, Option.map_eq_some_iff] at hj
    obtain ⟨g0, h0, rfl⟩ := hj
    refine ⟨g0, List.mem_of_getElem? h0, ?_⟩
    by_cases h1 : j < k
    · simp [h1, wakeG]
    · by_cases h2 : j = k
      · subst h2
        have := mixI_len (g0.items.map wakeI) g0.items n (by simp) (by rw [List.length_map]; exact hn g0 h0)
        simp [this]
      · simp [h1, h2]
  refine ⟨h.good, fun g hg => ?_, fun g hg d hd => ?_, ⟨by show (0 : Int) ≤ 0; omega, by show (0 : Int) ≤ _; omega⟩, h.fl, fun g hg => ?_⟩
  · obtain ⟨g0, h0, e1, _⟩ := key g hg
    rw [e1]; exact h.len g0 h0
  · obtain ⟨g0, h0, _, e2, _⟩ := key g hg
    rw [e2] at hd
    exact h.dead g0 h0 d hd
  · obtain ⟨g0, h0, _, _, e3⟩ := key g hg
    rw [e3]; exact h.start g0 h0

/-- the queue's groups as they are read -/
theorem YQ.groupsAt {w : World} {T : Nat → Tag} {i b : Nat} {m : MQ} (hy : YQ w T i b m.rq) : ∃ go gc, w.cell? ⟨b, 6, none⟩ = some (.slice go m.groups.length gc) ∧ b < w.heap.size ∧ ∀ k g, m.groups[k]? = some g → ∃ gb io ic, go = some ⟨gb, 0, none⟩ ∧ gb < w.heap.size ∧ w.cell? ⟨gb, k * 4 + 2, none⟩ = some (.slice io m.bodies.length ic) := by
  obtain ⟨hsm, hfew, hfl, vB, vG, vi, vd, hB, hR, hG, hI⟩ := hy
  have hgl : m.rq.groups.length = m.groups.length := by simp [MQ.rq]
  have hbl : m.rq.bodies.length = m.bodies.length := by simp [MQ.rq]
  rw [hgl] at hG
  obtain ⟨go, gc, rfl⟩ := row_form hG
  refine ⟨go, gc, hB.cell rfl, hB.lt, fun k g hg => ?_⟩
  have hk := (List.getElem?_eq_some_iff.1 hg).1
  obtain ⟨gb, gc', e⟩ := row_some hG (by omega)
  cases e
  have hi := (hI k g.rg (rq_group hg)).1
  obtain ⟨io, ic, e2⟩ := row_form hi
  have d2 := hG.cell (groupCells_at m.rq.groups vi vd k g.rg (rq_group hg)).2.2.1
  rw [e2, hbl] at d2
  exact ⟨gb, io, ic, rfl, hG.lt, d2⟩

attribute [local go_sem] over_cell

set_option maxRecDepth 100000 in
set_option maxHeartbeats 4000000 in
theorem ywake_any (i b : Nat) (m : MQ) (w : World) (T : Nat → Tag) (hy : YQ w T i b m.rq) (hok : m.Ok) :
    Calls Tryz.prog 80 #[.pointer (some ⟨b, 0, none⟩)] w fun e w' => e = .returned (.tuple #[]) ∧ ∃ T', Step (fun t => ∃ r j, t = .y i r j) w T w' T' ∧ YQ w' T' i b (wakeM m m.changes).rq := by
  have hlenA := hok.len
  have hsm : m.bodies.length ≤ 400 := by have := hy.small; simpa [MQ.rq] using this
  have hfew : m.groups.length ≤ 6 := by have := hy.few; simpa [MQ.rq] using this
  obtain ⟨hy1, s1⟩ := hy.setTime 0
  rw [← wakeTo_zero] at hy1
  have c7 : ∃ v, w.cell? ⟨b, 7, none⟩ = some v := by
    obtain ⟨_, _, _, vB, vG, vi, vd, hB, _⟩ := hy
    exact ⟨_, hB.cell rfl⟩
  obtain ⟨v7, c7⟩ := c7
  have z7 : w.frozen? ⟨b, 7, none⟩ = false := by
    obtain ⟨_, _, _, vB, vG, vi, vd, hB, _⟩ := hy
    exact hB.frozen 7
  obtain ⟨_, _, _, lb, _⟩ := hy.groupsAt
  clear hy
  go_enter Tryz.func80, Tryz.ntmps80
  go_wp2_with fail
  clear c7 z7 lb
  generalize w.setCell ⟨b, 7, none⟩ (.int .i64 0) = w1 at *
  go_loopw [2] (fun v wr => ∃ k : Nat, k ≤ m.groups.length ∧ v = .int .i64 k ∧ Step (fun t => ∃ r j, t = .y i r j) w T wr T ∧ YQ wr T i b (wakeTo m k 0).rq) (fun v _ => m.groups.length - (intOf v).toNat)
  case atStart => exact ⟨0, Nat.zero_le _, rfl, s1, hy1⟩
  case round =>
    obtain ⟨k, hk, rfl, s2, hy2⟩ := hrel
    clear hy1 s1
    obtain ⟨go, gc, c6, lb, hgr⟩ := hy2.groupsAt
    rw [wakeTo_glen] at c6
    by_cases hlt : k < m.groups.length
    · obtain ⟨g, hg⟩ : ∃ g, m.groups[k]? = some g := ⟨_, List.getElem?_eq_getElem hlt⟩
      have hlen := hlenA g (List.mem_of_getElem? hg)
      clear hgr
      go_wp2
      go_loopw [3] (fun v wr => ∃ n : Nat, n ≤ m.bodies.length ∧ v = .int .i64 n ∧ Step (fun t => ∃ r j, t = .y i r j) w T wr T ∧ YQ wr T i b (wakeTo m k n).rq) (fun v _ => m.bodies.length - (intOf v).toNat)
      case atStart => exact ⟨0, Nat.zero_le _, rfl, s2, hy2⟩
      case round =>
        obtain ⟨n, hnl, rfl, s3, hy3⟩ := hrel
        clear hy2 s2 c6 lb
        obtain ⟨go, gc, c6, lb, hgr⟩ := hy3.groupsAt
        rw [wakeTo_glen] at c6
        obtain ⟨gb, io, ic, rfl, lg, d2⟩ := hgr k _ (wakeTo_at hg)
        replace d2 : wr.cell? ⟨gb, k * 4 + 2, none⟩ = some (.slice io m.bodies.length ic) := d2
        clear hgr
        by_cases hnn : n < m.bodies.length
        · obtain ⟨x, hxn⟩ : ∃ x, g.items[n]? = some x := ⟨_, List.getElem?_eq_getElem (by omega)⟩
          have hmix : (mixI (g.items.map wakeI) g.items n)[n]? = some x := by rw [mixI_at _ _ _ (by rw [List.length_map]; omega) (by simp)]; simp [hxn]
          have hok3 := wakeTo_ok (k := k) (n := n) hok (fun g' hg' => by rw [hg] at hg'; cases hg'; omega)
          obtain ⟨gb', gc', gi, ic', c6', d2', ⟨t0, t1, t2, t3⟩, hfz, hfb, ne1, ne2, ne3, l1, l2, l3, c7, c8, hkl, h6, hnl', h400, hset⟩ := hy3.item hok3 (wakeTo_at hg) hmix
          rw [wakeTo_glen, c6] at c6'
          cases c6'
          rw [d2] at d2'
          cases d2'
          obtain ⟨hy4, s4⟩ := hset 2 (.int .i64 0) { x with till := 0 } (by decide) ((itVals_set _ n x hmix).2.2.1 0)
          have hg4 : ((wakeTo m k n).setI k n { x with till := 0 }).groups[k]? = some { g with items := (mixI (g.items.map wakeI) g.items n).set n { x with till := 0 } } := by rw [setI_group, wakeTo_at hg]; simp
          have hl4 : (mixI (g.items.map wakeI) g.items n).length = g.items.length := by rw [mixI_len _ _ _ (by simp) (by rw [List.length_map]; omega), List.length_map]
          have hx4 : ((mixI (g.items.map wakeI) g.items n).set n { x with till := 0 })[n]? = some { x with till := 0 } := by rw [List.getElem?_set, if_pos rfl, if_pos (by rw [hl4]; omega)]
          have c64 : (wr.setCell ⟨gi, n * 4 + 2, none⟩ (.int .i64 0)).cell? ⟨b, 6, none⟩ = some (.slice (some ⟨gb, 0, none⟩) ((wakeTo m k n).setI k n { x with till := 0 }).groups.length gc) := by
            rw [setI_len, wakeTo_glen]
            exact (World.cell?_of_block (Below.heap_setCell wr ⟨gi, n * 4 + 2, none⟩ (.int .i64 0) b (fun e => ne1 e.symm))).trans c6
          have d24 : (wr.setCell ⟨gi, n * 4 + 2, none⟩ (.int .i64 0)).cell? ⟨gb, k * 4 + 2, none⟩ = some (.slice (some ⟨gi, 0, none⟩) m.bodies.length ic) :=
            (World.cell?_of_block (Below.heap_setCell wr ⟨gi, n * 4 + 2, none⟩ (.int .i64 0) gb (fun e => ne2 e.symm))).trans d2
          obtain ⟨hy5, s5⟩ := hy4.itemAt (setI_ok hok3) hg4 hx4 c64 d24 3 (.int .i64 0) (wakeI x) (by decide) ((itVals_set _ n _ hx4).2.2.2 0)
          rw [wakeTo_step hg hxn] at hy5
          have s05 := (s3.trans s4).trans s5
          have z2 := hfz (n * 4 + 2)
          have z3 := hfz (n * 4 + 3)
          clear hy3 hy4 hset hfz hfb s3 s4 s5 hg4 hx4 c64 d24 hmix hok3 c7 c8 t0 t1
          go_wp2
          exact ⟨⟨n + 1, by omega, by simp, s05, hy5⟩, by simp [intOf]; omega⟩
        · have hy4 : YQ wr T i b (wakeTo m (k + 1) 0).rq := by
            rw [← wakeTo_next hg (n := n) (by omega)]
            exact hy3
          clear hy3
          go_wp2
          exact ⟨⟨k + 1, by omega, by simp, s3, hy4⟩, by simp [intOf]; omega⟩
    · have e : k = m.groups.length := by omega
      have hy3 : YQ wr T i b (wakeM m m.changes).rq := by
        rw [e, wakeTo_end] at hy2
        exact hy2
      clear hy2 hgr
      go_wp2
      go_end0
      exact ⟨rfl, T, s2, hy3⟩

end Go.Proofs.YtockkceclkcgbaaGreatDoor

/- The contract of the document's Copy: another queue, in memory of its own, that holds the same. -/
namespace Go.Proofs.YtockkceclkcgbaaGreatDoor
open Go.RowKit

/-- append of a whole list to nil: a new row -/
theorem run_copy_row {P : Program} {w : World} {T : Nat → Tag} (tg : Tag) {ts : Tag} (t ty e : TypeId) (i : TypeInfo) (z : Value) (size bytes : Nat) (ht : P.underlying t = some (.slice e)) (hi : P.info? e = some i) (hz : i.zero = some z)
    (hsize : i.size = size) (hby : i.bytes = bytes) (hzs : z.cells.size = size) (hsz : 0 < size) (src : Value) (n : Nat) (xs : List Value) (hsrc : Row w T ts e size src n xs) (h1 : ∀ u ∈ xs, u.oneCell' = true)
    (h63 : n ≤ maxLen) (hbytes : n * bytes ≤ 140737488355328) :
    ∃ ao cap w' T', (Builtin.append_ #[t, t] ty #[.slice none 0 0, src]).run P w = .ok (.slice ao n cap) w' ∧ Row w' T' tg e size (.slice ao n cap) n xs ∧ Step (fun _ => False) w T w' T' := by
  rcases hsrc.1.2 with ⟨rfl, rfl⟩ | ⟨g, cap, cur, rfl, hrest⟩
  · have hx : xs = [] := List.eq_nil_of_length_eq_zero (by have := hsrc.1.1; omega)
    subst hx
    exact ⟨none, 0, w, T, by simp [Builtin.append_, run_underlying ht, sizeOf, typeInfo, hi, Builtin.lenOf, Builtin.firstCells], row_nil _ _ _ _ _, Step.refl _ _ _⟩
  · obtain ⟨v', w', hr, h2, h3, _, h5⟩ := run_append_own_at (P := P) w 0 t ty e i z size bytes ht hi hz hsize hby hzs hsz (.slice none 0 0) 0 [] (World.ownsRow_nil w 0 e size) ⟨g, 0, none⟩ n cap xs hsrc.1.1 (fun j u hj => hsrc.1.cells (g := g) rfl j u hj) h1 (by omega) (by simpa using hbytes) (Nat.zero_le _)
    simp only [Nat.zero_add, List.nil_append] at h2
    have hs : Step (fun _ => False) w T w' (retag T w.heap.size tg) := step_grown h3 (fun k hk => by simp [Value.ownBlock] at hk) (fun k hk => retag_other T _ tg (by omega))
    have hR : Row w' (retag T w.heap.size tg) tg e size v' n xs := ⟨h2, fun g' hg' => by
      rcases h5 with h | h
      · rw [h] at hg'; simp [Value.ownBlock] at hg'
      · rw [h] at hg'; cases hg'; exact retag_same _ _ _⟩
    obtain ⟨ao, c', rfl⟩ := row_form hR
    exact ⟨ao, c', w', _, hr, hR, hs⟩

/-- one group as it is read -/
theorem YQ.readG {w : World} {T : Nat → Tag} {i b : Nat} {m : MQ} {k : Nat} {g : MG} (hy : YQ w T i b m.rq) (hg : m.groups[k]? = some g) : ∃ gb gc io ic dO dc, w.cell? ⟨b, 6, none⟩ = some (.slice (some ⟨gb, 0, none⟩) m.groups.length gc) ∧ w.cell? ⟨gb, k * 4, none⟩ = some (.string g.name) ∧ w.cell? ⟨gb, k * 4 + 1, none⟩ = some (.int .i64 g.start) ∧ w.cell? ⟨gb, k * 4 + 2, none⟩ = some (.slice io m.bodies.length ic) ∧ w.cell? ⟨gb, k * 4 + 3, none⟩ = some (.slice dO g.dead.length dc) ∧
    Row w T (.y i 3 k) 111 4 (.slice io m.bodies.length ic) m.bodies.length (itVals g.items) ∧ Row w T (.y i 4 k) 3 1 (.slice dO g.dead.length dc) g.dead.length (g.dead.map natV) ∧ T b = .y i 0 0 ∧ T gb = .y i 2 0 ∧ b < w.heap.size ∧ gb < w.heap.size := by
  obtain ⟨hsm, hfew, hfl, vB, vG, vi, vd, hB, hR, hG, hI⟩ := hy
  have hgl : m.rq.groups.length = m.groups.length := by simp [MQ.rq]
  have hbl : m.rq.bodies.length = m.bodies.length := by simp [MQ.rq]
  have hdl : g.rg.dead.length = g.dead.length := by simp [MG.rg]
  have hkl : k < m.groups.length := (List.getElem?_eq_some_iff.1 hg).1
  rw [hgl] at hG
  obtain ⟨gb, gc, rfl⟩ := row_some hG (by omega)
  obtain ⟨h1, h2⟩ := hI k g.rg (rq_group hg)
  rw [hbl] at h1
  rw [hdl] at h2
  obtain ⟨io, ic, e1⟩ := row_form h1
  obtain ⟨dO, dc, e2⟩ := row_form h2
  rw [e1] at h1
  rw [e2] at h2
  obtain ⟨d0, d1, d2, d3⟩ := groupCells_at m.rq.groups vi vd k g.rg (rq_group hg)
  rw [e1] at d2
  rw [e2] at d3
  exact ⟨gb, gc, io, ic, dO, dc, hB.cell rfl, hG.cell d0, hG.cell d1, hG.cell d2, hG.cell d3, h1, h2, hB.1, hG.2 gb rfl, hB.lt, hG.lt⟩

def CpS (j : Nat) (t : Tag) : Prop := (∃ r k, t = .y j r k) ∨ t = .free

/-- Copy has reached group k -/
structure Cp (w : World) (T : Nat → Tag) (wr : World) (T' : Nat → Tag) (i b j xb : Nat) (m : MQ) (vB vG : Value) (vi vd : Nat → Value) (k : Nat) : Prop where
  step : Step (CpS j) w T wr T'
  src : YQ wr T' i b m.rq
  blk : Blk wr T' (.y j 0 0) xb #[.int .i64 m.c.l, .int .i64 m.c.d, .int .i64 m.c.s, .int .i64 m.c.k, vB, .int .i64 m.floor, vG, .int .i64 m.time, .int .i64 m.changes] 95
  bod : Row wr T' (.y j 1 0) 9 1 vB m.bodies.length (m.bodies.map .string)
  grp : Row wr T' (.y j 2 0) 109 4 vG k (groupCells (m.rq.groups.take k) vi vd)
  its : ∀ q g, q < k → m.rq.groups[q]? = some g → GrpAt wr T' j q g m.bodies.length (vi q) (vd q)

theorem Cp.done {w wr : World} {T T' : Nat → Tag} {i b j xb : Nat} {m : MQ} {vB vG : Value} {vi vd : Nat → Value} (h : Cp w T wr T' i b j xb m vB vG vi vd m.groups.length) : YQ wr T' j xb m.rq := by
  have h1 := h.src.small
  have h2 := h.src.few
  have h3 := h.src.fl
  have hgl : m.rq.groups.length = m.groups.length := by simp [MQ.rq]
  have hbl : m.rq.bodies.length = m.bodies.length := by simp [MQ.rq]
  refine ⟨h1, h2, h3, vB, vG, vi, vd, h.blk, by rw [hbl]; exact h.bod, ?_, fun k g hk => ?_⟩
  · have := h.grp
    rw [← hgl, List.take_length] at this
    exact this
  · rw [hbl]
    exact h.its k g (by rw [← hgl]; exact (List.getElem?_eq_some_iff.1 hk).1) hk

theorem oneInts (l : List It) : ∀ u ∈ itVals l, u.oneCell' = true := by
  induction l with
  | nil => intro u hu; simp [itVals] at hu
  | cons x r ih =>
    intro u hu
    simp only [itVals, List.mem_cons] at hu
    rcases hu with rfl | rfl | rfl | rfl | hu
    · rfl
    · rfl
    · rfl
    · rfl
    · exact ih u hu
theorem infoIntC : (Tryz.prog.info? 3).map (fun i => (i.zero, i.size, i.bytes)) = some (some (.int .i64 0), 1, 8) := by kernel_rfl
theorem info9c : (Tryz.prog.info? 9).map (fun i => (i.zero, i.size, i.bytes)) = some (some (.string ⟨#[]⟩), 1, 16) := by kernel_rfl

attribute [local go_sem] over_cell

set_option maxRecDepth 100000 in
set_option maxHeartbeats 8000000 in
theorem ycopy_any (i b j : Nat) (hij : i ≠ j) (m : MQ) (w : World) (T : Nat → Tag) (hy : YQ w T i b m.rq) (_hok : m.Ok) (hdl : ∀ g ∈ m.groups, g.dead.length ≤ 4000) :
    Calls Tryz.prog 40 #[.pointer (some ⟨b, 0, none⟩)] w fun e w' => ∃ xb, e = .returned (.pointer (some ⟨xb, 0, none⟩)) ∧ ∃ T', Step (CpS j) w T w' T' ∧ YQ w' T' j xb m.rq ∧ w.heap.size ≤ xb := by
  have hsm : m.bodies.length ≤ 400 := by have := hy.small; simpa [MQ.rq] using this
  have hfew : m.groups.length ≤ 6 := by have := hy.few; simpa [MQ.rq] using this
  have hgl : m.rq.groups.length = m.groups.length := by simp [MQ.rq]
  have hbl : m.rq.bodies.length = m.bodies.length := by simp [MQ.rq]
  have hnS : ∀ r k, ¬ CpS j (.y i r k) := by rintro r k (⟨r', k', e⟩ | e); exact hij (congrArg Tag.i e); exact absurd (congrArg Tag.c e) (by simp)
  obtain ⟨_, _, _, vB, vG, vi, vd, hB, hR, hG, hI⟩ := id hy
  rw [hbl] at hR
  obtain ⟨bo, bc, rfl⟩ := row_form hR
  have c0 := hB.cell (j := 0) rfl
  have c1 := hB.cell (j := 1) rfl
  have c2 := hB.cell (j := 2) rfl
  have c3 := hB.cell (j := 3) rfl
  have c4 := hB.cell (j := 4) rfl
  have c5 := hB.cell (j := 5) rfl
  have c7 := hB.cell (j := 7) rfl
  have c8 := hB.cell (j := 8) rfl
  simp only [List.getElem_toArray, List.getElem_cons_succ, List.getElem_cons_zero] at c0 c1 c2 c3 c4 c5 c7 c8
  have lb := hB.lt
  have sn := (step_new w T (.cells #[.int .i64 m.rq.c.l, .int .i64 m.rq.c.d, .int .i64 m.rq.c.s, .int .i64 m.rq.c.k, .slice none 0 0, .int .i64 m.rq.floor, .slice none 0 0, .int .i64 m.rq.time, .int .i64 m.rq.changes] 95) (.y j 0 0) (fun _ => False)).trans (step_below _ _ (Below.refl _ _).drew)
  have hX1 : Blk (w.alloc (.cells #[.int .i64 m.rq.c.l, .int .i64 m.rq.c.d, .int .i64 m.rq.c.s, .int .i64 m.rq.c.k, .slice none 0 0, .int .i64 m.rq.floor, .slice none 0 0, .int .i64 m.rq.time, .int .i64 m.rq.changes] 95)).drew (retag T w.heap.size (.y j 0 0)) (.y j 0 0) w.heap.size _ 95 := (blk_new w T _ 95 (.y j 0 0))
  have hy1 := hy.step sn (fun _ _ h => h)
  have hR1 := hR.step sn (fun h => h)
  have hB1 := hB.step sn (fun h => h)
  go_enter Tryz.func40, Tryz.ntmps40
  go_wp2_with fail
  go_region
  clear c0 c1 c2 c3 c4 c5 c7 c8 hy hR hB hG hI
  generalize retag T w.heap.size (.y j 0 0) = T1 at *
  generalize (w.alloc (.cells #[.int .i64 m.rq.c.l, .int .i64 m.rq.c.d, .int .i64 m.rq.c.s, .int .i64 m.rq.c.k, .slice none 0 0, .int .i64 m.rq.floor, .slice none 0 0, .int .i64 m.rq.time, .int .i64 m.rq.changes] 95)).drew = w1 at *
  generalize hxb : w.heap.size = xb at hX1 ⊢
  obtain ⟨i0, hi, hz0, hz1, hz2⟩ := info_parts info9c
  have gd1 := step_below (fun _ => False) T1 (Below.refl w1.heap.size w1).drew
  obtain ⟨ao2, cap2, w2, T2, hrun2, hR2, s2⟩ := run_copy_row (P := Tryz.prog) (.y j 1 0) 54 54 9 i0 _ 1 16 Tryz.underlying54 hi hz0 hz1 hz2 rfl (by decide) _ _ _ (hR1.step gd1 (fun h => h)) (by intro u hu; simp [MQ.rq] at hu; obtain ⟨y, _, rfl⟩ := hu; rfl) (by unfold maxLen; omega) (by omega)
  have s12 := gd1.trans s2
  have x4 := hX1.cell (j := 4) rfl
  have b4 := hB1.cell (j := 4) rfl
  have hX2 := hX1.step s12 (fun h => h)
  have x4' := hX2.cell (j := 4) rfl
  have z4 := hX2.frozen 4
  simp only [List.getElem_toArray, List.getElem_cons_succ, List.getElem_cons_zero] at x4 b4 x4'
  have lx1 := hX1.lt
  have lx2 := hX2.lt
  have lb1 := hB1.lt
  have hs3 : Step (fun t => t = .y j 0 0) w2 T2 (w2.setCell ⟨xb, 4, none⟩ (.slice ao2 m.bodies.length cap2)) T2 := step_setCell _ _ _ _ _ hX2.1
  have cp0 : Cp w T (w2.setCell ⟨xb, 4, none⟩ (.slice ao2 m.bodies.length cap2)) T2 i b j xb m (.slice ao2 m.bodies.length cap2) (.slice none 0 0) (fun _ => .slice none 0 0) (fun _ => .slice none 0 0) 0 :=
    ⟨((sn.trans s12).mono (fun _ h => h.elim)).trans (hs3.mono (fun t ht => .inl ⟨0, 0, ht⟩)), (hy1.step s12 (fun _ _ h => h)).step hs3 (fun r k e => hij (congrArg Tag.i e)), hX2.set 4 _, hR2.step hs3 (by simp), row_nil _ _ _ _ _, fun q g hq => by omega⟩
  clear hX1 hX2 hy1 hR1 hB1 hR2 s2 s12 gd1 hs3 sn
  go_wp2_with fail
  go_cut [35] from 24 to 34 (fun _ w' => w' = w2.setCell ⟨xb, 4, none⟩ (.slice ao2 m.bodies.length cap2))
  case first =>
    go_region_law (refine step_append_known rfl _ _ 54 rfl _ _ _ rfl rfl hrun2 ?_)
    all_goals
      go_wp2_with fail
      go_meet
      rfl
  case rest =>
    subst hcut
    clear x4 b4 x4' z4 lx1 lx2 lb1 hrun2
    generalize w2.setCell ⟨xb, 4, none⟩ (.slice ao2 m.bodies.length cap2) = w3 at *
    generalize (Value.slice ao2 m.bodies.length cap2) = vB at *
    obtain ⟨jI, hjI, hjI0, hjI1, hjI2⟩ := info_parts info93
    obtain ⟨jD, hjD, hjD0, hjD1, hjD2⟩ := info_parts infoIntC
    obtain ⟨jG, hjG, hjG0, hjG1, hjG2⟩ := info_parts info91
    go_wp2_with fail
    go_loopw [4] (fun v wr => ∃ (k : Nat) (T' : Nat → Tag) (vG : Value) (vi vd : Nat → Value), k ≤ m.groups.length ∧ v = .int .i64 k ∧ Cp w T wr T' i b j xb m vB vG vi vd k) (fun v _ => m.groups.length - (intOf v).toNat)
    case atStart => exact ⟨0, T2, _, _, _, Nat.zero_le _, rfl, cp0⟩
    case round =>
      obtain ⟨k, T3, vG, vi, vd, hk, rfl, C⟩ := hrel
      clear cp0
      by_cases hlt : k < m.groups.length
      · obtain ⟨g, hg⟩ : ∃ g, m.groups[k]? = some g := ⟨_, List.getElem?_eq_getElem hlt⟩
        obtain ⟨gb, gc, io, ic, dO, dc, c6, d0, d1, d2, d3, hIt, hDe, tb, tg, lb3, lg3⟩ := C.src.readG hg
        have hdead := hdl g (List.mem_of_getElem? hg)
        -- the new group's variable
        have sn := (step_new wr T3 (.cells #[.string g.name, .int .i64 g.start, .slice none 0 0, .slice none 0 0] 109) .free (fun _ => False)).trans (step_below _ _ (Below.refl _ _).drew)
        have hV : Blk (wr.alloc (.cells #[.string g.name, .int .i64 g.start, .slice none 0 0, .slice none 0 0] 109)).drew (retag T3 wr.heap.size .free) .free wr.heap.size _ 109 := blk_new wr T3 _ 109 .free
        have hS : ∀ w', Below wr.heap.size wr w' → w'.cell? ⟨b, 6, none⟩ = some (.slice (some ⟨gb, 0, none⟩) m.groups.length gc) ∧ w'.cell? ⟨gb, k * 4, none⟩ = some (.string g.name) ∧ w'.cell? ⟨gb, k * 4 + 1, none⟩ = some (.int .i64 g.start) := fun w' hb => ⟨(hb.cell (p := ⟨b, 6, none⟩) lb3).trans c6, (hb.cell (p := ⟨gb, k * 4, none⟩) lg3).trans d0, (hb.cell (p := ⟨gb, k * 4 + 1, none⟩) lg3).trans d1⟩
        go_wp2_with fail
        go_region_held3 (fun w' => w'.cell? ⟨b, 6, none⟩ = some (.slice (some ⟨gb, 0, none⟩) m.groups.length gc) ∧ w'.cell? ⟨gb, k * 4, none⟩ = some (.string g.name) ∧ w'.cell? ⟨gb, k * 4 + 1, none⟩ = some (.int .i64 g.start)) (first | (go_keep; done) | (refine hS _ ?_; exact ((Below.refl _ _).alloc (Nat.le_refl _) _).drew)) (fail)
        have kp : ∀ {S : Tag → Prop} {u u' : World} {V V' : Nat → Tag}, Step S u V u' V' → (∀ t, S t → CpS j t) → V b = .y i 0 0 → V gb = .y i 2 0 → b < u.heap.size → gb < u.heap.size → (∀ q, u'.cell? ⟨b, q, none⟩ = u.cell? ⟨b, q, none⟩) ∧ (∀ q, u'.cell? ⟨gb, q, none⟩ = u.cell? ⟨gb, q, none⟩) ∧ V' b = .y i 0 0 ∧ V' gb = .y i 2 0 ∧ b < u'.heap.size ∧ gb < u'.heap.size := fun hs hS e1 e2 e3 e4 =>
          ⟨fun q => hs.cell (p := ⟨b, q, none⟩) e3 (fun h => hnS 0 0 (by rw [← e1]; exact hS _ h)), fun q => hs.cell (p := ⟨gb, q, none⟩) e4 (fun h => hnS 2 0 (by rw [← e2]; exact hS _ h)), (hs.tag b e3).trans e1, (hs.tag gb e4).trans e2, Nat.lt_of_lt_of_le e3 hs.size, Nat.lt_of_lt_of_le e4 hs.size⟩
        obtain ⟨kb4, kg4, tb4, tg4, lb4, lg4⟩ := kp sn (fun _ h => h.elim) tb tg lb3 lg3
        have hIt4 := hIt.step sn (fun h => h)
        have hDe4 := hDe.step sn (fun h => h)
        have hC4 := C.blk.step sn (fun h => h)
        have hBo4 := C.bod.step sn (fun h => h)
        have hGr4 := C.grp.step sn (fun h => h)
        have hIs4 := fun q g hq hg => (C.its q g hq hg).step sn (fun h => h) (fun h => h)
        have hSr4 := C.src.step sn (fun _ _ h => h)
        have s04 := C.step.trans (sn.mono (fun _ h => h.elim))
        replace c6 := (kb4 6).trans c6
        replace d2 := (kg4 (k * 4 + 2)).trans d2
        replace d3 := (kg4 (k * 4 + 3)).trans d3
        clear C hIt hDe tb tg lb3 lg3 kb4 kg4 d0 d1 hS sn
        generalize retag T3 wr.heap.size .free = T4 at *
        generalize (wr.alloc (.cells #[.string g.name, .int .i64 g.start, .slice none 0 0, .slice none 0 0] 109)).drew = w4 at *
        generalize wr.heap.size = gv at *
        -- its items
        have gd4 := step_below (fun _ => False) T4 (Below.refl w4.heap.size w4).drew
        obtain ⟨aI, cI, w5, T5, hrun5, hI5, s5⟩ := run_copy_row (P := Tryz.prog) (.y j 3 k) 107 107 111 jI _ 4 32 Tryz.underlying107 hjI hjI0 hjI1 hjI2 rfl (by decide) _ _ _ (hIt4.step gd4 (fun h => h)) (oneInts _) (by unfold maxLen; omega) (by omega)
        have s45 := gd4.trans s5
        have hV5 := hV.step s45 (fun h => h)
        have v2 := hV.cell (j := 2) rfl
        have v2' := hV5.cell (j := 2) rfl
        have zv2 := hV5.frozen 2
        simp only [List.getElem_toArray, List.getElem_cons_succ, List.getElem_cons_zero] at v2 v2'
        have lv := hV.lt
        have lv5 := hV5.lt
        have hs6 : Step (fun t => t = .free) w5 T5 (w5.setCell ⟨gv, 2, none⟩ (.slice aI m.bodies.length cI)) T5 := step_setCell _ _ _ _ _ hV5.1
        have s46 := (s45.mono (fun _ h => (h.elim : _ = Tag.free))).trans hs6
        have hV6 := hV5.set 2 (.slice aI m.bodies.length cI)
        have hI6 := hI5.step hs6 (by simp)
        obtain ⟨kb6, kg6, tb6, tg6, lb6, lg6⟩ := kp s46 (fun _ h => .inr h) tb4 tg4 lb4 lg4
        have hDe6 := hDe4.step s46 (by simp)
        have hC6 := hC4.step s46 (by simp)
        have hBo6 := hBo4.step s46 (by simp)
        have hGr6 := hGr4.step s46 (by simp)
        have hIs6 := fun q g hq hg => (hIs4 q g hq hg).step s46 (by simp) (by simp)
        have hSr6 := hSr4.step s46 (by simp)
        have s06 := s04.trans (s46.mono (fun _ h => .inr h))
        have c66 := (kb6 6).trans c6
        have d36 := (kg6 (k * 4 + 3)).trans d3
        clear hIt4 hDe4 hC4 hBo4 hGr4 hIs4 hSr4 s04 hV hV5 hI5 s5 s45 s46 hs6 gd4 kb6 kg6 tb4 tg4
        go_wp2_with fail
        go_cut [73] from 62 to 72 (fun _ w' => w' = w5.setCell ⟨gv, 2, none⟩ (.slice aI m.bodies.length cI))
        case first =>
          go_region_law (refine step_append_known rfl _ _ 107 rfl _ _ _ rfl rfl hrun5 ?_)
          all_goals
            go_wp2_with fail
            go_meet
            rfl
        case rest =>
          subst hcut
          clear v2 v2' zv2 lv lv5 hrun5 c6 d2 d3 lb4 lg4
          generalize w5.setCell ⟨gv, 2, none⟩ (.slice aI m.bodies.length cI) = w6 at *
          -- its dead
          have gd6 := step_below (fun _ => False) T5 (Below.refl w6.heap.size w6).drew
          obtain ⟨aD, cD, w7, T7, hrun7, hD7, s7⟩ := run_copy_row (P := Tryz.prog) (.y j 4 k) 50 50 3 jD _ 1 8 Tryz.underlying50 hjD hjD0 hjD1 hjD2 rfl (by decide) _ _ _ (hDe6.step gd6 (fun h => h)) (by intro u hu; simp at hu; obtain ⟨y, _, rfl⟩ := hu; rfl) (by unfold maxLen; omega) (by omega)
          have s67 := gd6.trans s7
          have hV7 := hV6.step s67 (fun h => h)
          have v3 : w6.cell? ⟨gv, 3, none⟩ = some (.slice none 0 0) := hV6.cell rfl
          have v3' : w7.cell? ⟨gv, 3, none⟩ = some (.slice none 0 0) := hV7.cell rfl
          have zv3 := hV7.frozen 3
          have lv := hV6.lt
          have lv7 := hV7.lt
          have hs8 : Step (fun t => t = .free) w7 T7 (w7.setCell ⟨gv, 3, none⟩ (.slice aD g.dead.length cD)) T7 := step_setCell _ _ _ _ _ hV7.1
          have s68 := (s67.mono (fun _ h => (h.elim : _ = Tag.free))).trans hs8
          have hV8 := hV7.set 3 (.slice aD g.dead.length cD)
          have hD8 := hD7.step hs8 (by simp)
          have hI8 := hI6.step s68 (by simp)
          have hC8 := hC6.step s68 (by simp)
          have hBo8 := hBo6.step s68 (by simp)
          have hGr8 := hGr6.step s68 (by simp)
          have hIs8 := fun q g hq hg => (hIs6 q g hq hg).step s68 (by simp) (by simp)
          have hSr8 := hSr6.step s68 (by simp)
          have s08 := s06.trans (s68.mono (fun _ h => .inr h))
          clear hDe6 hC6 hBo6 hGr6 hIs6 hSr6 s06 hV6 hV7 hD7 s7 s67 s68 hs8 gd6 tb6 tg6 hI6
          go_wp2_with fail
          go_cut [85] from 74 to 84 (fun _ w' => w' = w7.setCell ⟨gv, 3, none⟩ (.slice aD g.dead.length cD))
          case first =>
            go_region_law (refine step_append_known rfl _ _ 50 rfl _ _ _ rfl rfl hrun7 ?_)
            all_goals
              go_wp2_with fail
              go_meet
              rfl
          case rest =>
            subst hcut
            clear v3 v3' zv3 lv lv7 hrun7 c66 d36 lb6 lg6
            generalize w7.setCell ⟨gv, 3, none⟩ (.slice aD g.dead.length cD) = w8 at *
            -- the group is appended
            obtain ⟨go9, gc9, e9⟩ := row_form hGr8
            subst e9
            have x6 : w8.cell? ⟨xb, 6, none⟩ = some (.slice go9 k gc9) := hC8.cell rfl
            have u0 : w8.cell? ⟨gv, 0, none⟩ = some (.string g.name) := hV8.cell rfl
            have u1 : w8.cell? ⟨gv, 1, none⟩ = some (.int .i64 g.start) := hV8.cell rfl
            have u2 : w8.cell? ⟨gv, 2, none⟩ = some (.slice aI m.bodies.length cI) := hV8.cell rfl
            have u3 : w8.cell? ⟨gv, 3, none⟩ = some (.slice aD g.dead.length cD) := hV8.cell rfl
            have lx8 := hC8.lt
            have lv8 := hV8.lt
            have gd8 := step_below (fun _ => False) T7 ((Below.refl w8.heap.size w8).drew.alloc (by simp) (.cells #[.string g.name, .int .i64 g.start, .slice aI m.bodies.length cI, .slice aD g.dead.length cD] 109))
            obtain ⟨g9, cap9, w9, T9, hrun9, hG9, s9⟩ := run_append_row (P := Tryz.prog) 93 93 109 jG _ 4 72 Tryz.underlying93 hjG hjG0 hjG1 hjG2 rfl (by decide) _ _ _ (hGr8.step gd8 (fun h => h)) ⟨w8.heap.size, 0, none⟩ 1 1 [.string g.name, .int .i64 g.start, .slice aI m.bodies.length cI, .slice aD g.dead.length cD] rfl (cells_new5 w8.drew _ 109) (by simp [Value.oneCell']) (by decide) (by unfold maxLen; omega) (by omega)
            have s89 := (gd8.mono (fun _ h => (h.elim : _ = Tag.y j 2 0))).trans s9
            have hC9 := hC8.step s89 (by simp)
            have x6' : w9.cell? ⟨xb, 6, none⟩ = some (.slice go9 k gc9) := hC9.cell rfl
            have z6 := hC9.frozen 6
            have lx9 := hC9.lt
            have hsA : Step (fun t => t = .y j 0 0) w9 T9 (w9.setCell ⟨xb, 6, none⟩ (.slice (some ⟨g9, 0, none⟩) (k + 1) cap9)) T9 := step_setCell _ _ _ _ _ hC9.1
            have hkt : m.rq.groups.take (k + 1) = m.rq.groups.take k ++ [g.rg] := by rw [List.take_add_one, rq_group hg]; rfl
            have hfin : Cp w T (w9.setCell ⟨xb, 6, none⟩ (.slice (some ⟨g9, 0, none⟩) (k + 1) cap9)) T9 i b j xb m vB (.slice (some ⟨g9, 0, none⟩) (k + 1) cap9) (fun q => if q = k then .slice aI m.bodies.length cI else vi q) (fun q => if q = k then .slice aD g.dead.length cD else vd q) (k + 1) := by
              refine ⟨(s08.trans (s89.mono (fun t ht => .inl ⟨2, 0, ht⟩))).trans (hsA.mono (fun t ht => .inl ⟨0, 0, ht⟩)), (hSr8.step s89 (fun r q e => hij (congrArg Tag.i e))).step hsA (fun r q e => hij (congrArg Tag.i e)), hC9.set 6 _, (hBo8.step s89 (by simp)).step hsA (by simp), ?_, fun q g' hq hg' => ?_⟩
              · rw [hkt, groupCells_snoc, groupCells_congr (m.rq.groups.take k) (m.rq.groups.take k) vi vd _ _ rfl (fun q hq => if_neg (by simp at hq; omega)) (fun q hq => if_neg (by simp at hq; omega))]
                have hlk : (m.rq.groups.take k).length = k := by simp; omega
                rw [hlk]
                simp only [if_true]
                exact hG9.step hsA (by simp)
              · by_cases e : q = k
                · subst e
                  rw [rq_group hg] at hg'
                  cases hg'
                  simp only [if_true]
                  have hdl' : g.rg.dead.length = g.dead.length := by simp [MG.rg]
                  exact ⟨(hI8.step s89 (by simp)).step hsA (by simp), by rw [hdl']; exact (hD8.step s89 (by simp)).step hsA (by simp)⟩
                · simp only [if_neg e]
                  exact ((hIs8 q g' (by omega) hg').step s89 (by simp) (by simp)).step hsA (by simp) (by simp)
            clear hC8 hBo8 hGr8 hIs8 hSr8 s08 hV8 hD8 hI8 gd8 hG9 s9 s89 hC9 hsA hkt
            go_wp2_with fail
            go_region_law (refine step_append_known rfl _ _ 93 rfl _ _ _ rfl rfl hrun9 ?_)
            all_goals
              go_wp2
              exact ⟨⟨k + 1, T9, _, _, _, by omega, by simp, hfin⟩, by simp [intOf]; omega⟩
      · obtain ⟨go, gc, c6, lb3, _⟩ := C.src.groupsAt
        have e : k = m.groups.length := by omega
        subst e
        have hd := C.done
        have hst := C.step
        clear C
        go_wp2
        go_ret
        exact ⟨xb, rfl, T3, hst, hd, Nat.le_of_eq hxb⟩

end Go.Proofs.YtockkceclkcgbaaGreatDoor

/- Contracts of the document's mark and Retain. -/
import Derived.Test.YtockkceclkcgbaaGreatDoorB05
import Derived.Test.YtockkceclkcgbaaGreatDoorB04
namespace Go.Proofs.YtockkceclkcgbaaGreatDoor
open Go.RowKit

/-- the first place from n on that is not done -/
def markAt (l : List It) (n : Nat) : Nat := n + ((l.drop n).takeWhile (fun x => decide (0 < x.done))).length
def markOf (g : MG) : Nat := markAt g.items g.start.toNat

theorem markAt_end {l : List It} {n : Nat} (h : l.length ≤ n) : markAt l n = n := by simp [markAt, List.drop_eq_nil_of_le h]
theorem dropI_at {l : List It} {n : Nat} {x : It} (hx : l[n]? = some x) : l.drop n = x :: l.drop (n + 1) := by
  obtain ⟨h, e⟩ := List.getElem?_eq_some_iff.1 hx
  rw [List.drop_eq_getElem_cons h, e]
theorem markAt_stop {l : List It} {n : Nat} {x : It} (hx : l[n]? = some x) (h : x.done ≤ 0) : markAt l n = n := by
  have h2 : ¬ 0 < x.done := by omega
  simp [markAt, dropI_at hx, h2]
theorem markAt_on {l : List It} {n : Nat} {x : It} (hx : l[n]? = some x) (h : 0 < x.done) : markAt l n = markAt l (n + 1) := by
  simp only [markAt, dropI_at hx, List.takeWhile_cons, h, decide_true, if_true, List.length_cons]
  omega
theorem markAt_le {l : List It} {n : Nat} : n ≤ markAt l n ∧ (n ≤ l.length → markAt l n ≤ l.length) := by
  refine ⟨Nat.le_add_right _ _, fun h => ?_⟩
  have h1 : ((l.drop n).takeWhile (fun x => decide (0 < x.done))).length ≤ (l.drop n).length := (List.takeWhile_prefix _).length_le
  simp at h1
  unfold markAt
  omega

set_option maxRecDepth 100000 in
set_option maxHeartbeats 2000000 in
theorem ymark_any (l : List It) (nm : ByteArray) (dO : Option Addr) (dn dc : Nat) (st : Int) (ao : Option Addr) (cap : Nat) (w : World) (T : Nat → Tag) (t : Tag) (hr : Row w T t 111 4 (.slice ao l.length cap) l.length (itVals l)) (hn : l.length ≤ 400) (h0 : 0 ≤ st) (h1 : st ≤ 400) :
    Calls Tryz.prog 110 #[.agg #[.string nm, .int .i64 st, .slice ao l.length cap, .slice dO dn dc]] w fun e w' => e = .returned (.int .i64 (markAt l st.toNat)) ∧ Below w.heap.size w w' := by
  obtain ⟨s0, rfl⟩ : ∃ s0 : Nat, st = s0 := ⟨st.toNat, by omega⟩
  simp only [Int.toNat_natCast]
  have hb0 : Below w.heap.size w (w.alloc (.cells #[.string nm, .int .i64 s0, .slice ao l.length cap, .slice dO dn dc] 109)) := (Below.refl _ _).alloc (Nat.le_refl _) _
  go_enter Tryz.func110, Tryz.ntmps110
  go_wp2_with fail
  go_loopw [3] (fun u3 wr => ∃ (n : Nat), n ≤ 401 ∧ u3 = .int .i64 n ∧ wr = w.alloc (.cells #[.string nm, .int .i64 s0, .slice ao l.length cap, .slice dO dn dc] 109) ∧ Hid (markAt l s0 = markAt l n)) (fun u3 _ => 401 - (intOf u3).toNat)
  case atStart => exact ⟨s0, by omega, rfl, rfl, hide rfl⟩
  case round =>
    obtain ⟨n, hn1, rfl, rfl, hm⟩ := hrel
    by_cases hlt : n < l.length
    · obtain ⟨x, hx⟩ : ∃ x, l[n]? = some x := ⟨_, List.getElem?_eq_getElem hlt⟩
      obtain ⟨gi, ic', e⟩ := row_some hr (by omega)
      cases e
      have li := hr.lt
      have tx := hr.cell (itVals_at l n x hx).2.1
      by_cases hd : 0 < x.done
      · have hm2 : Hid (markAt l s0 = markAt l (n + 1)) := hide (hm.out.trans (markAt_on hx hd))
        go_wp2
        refine ⟨⟨n + 1, by omega, by simp, trivial, hm2⟩, by simp [intOf]; omega⟩
      · have hm2 : Hid (markAt l s0 = n) := hide (hm.out.trans (markAt_stop hx (by omega)))
        go_wp2
        go_ret
        exact ⟨by rw [hm2.out]; rfl, hb0⟩
    · have hm2 : Hid (markAt l s0 = n) := hide (hm.out.trans (markAt_end (by omega)))
      go_wp2
      go_ret
      exact ⟨by rw [hm2.out]; rfl, hb0⟩

/-- the least of the first k groups' marks and of the end -/
def leastTo (m : MQ) : Nat → Nat
  | 0 => m.bodies.length
  | k + 1 => match m.groups[k]? with
    | none => leastTo m k
    | some g => min (leastTo m k) (markOf g)
theorem leastTo_le (m : MQ) : ∀ k, leastTo m k ≤ m.bodies.length
  | 0 => Nat.le_refl _
  | k + 1 => by
    rw [leastTo]
    cases m.groups[k]? with
    | none => exact leastTo_le m k
    | some g => exact Nat.le_trans (Nat.min_le_left _ _) (leastTo_le m k)
theorem leastTo_step {m : MQ} {k : Nat} {g : MG} (hg : m.groups[k]? = some g) : leastTo m (k + 1) = min (leastTo m k) (markOf g) := by rw [leastTo, hg]

/-- where the floor goes -/
def retainTo (m : MQ) : Int := (leastTo m m.groups.length : Int).tdiv m.c.s * m.c.s
def retainB (m : MQ) : Bool := decide (m.groups.length = 0) || decide (retainTo m ≤ m.floor)
def retainN (m : MQ) : Int := bif retainB m then 0 else retainTo m - m.floor
def retainM (m : MQ) : MQ := bif retainB m then m else { m with floor := retainTo m, changes := wrap64 (m.changes + 1) }

theorem good_seg {c : Conf} (h : goodC c = true) : 1 ≤ c.s ∧ c.s ≤ 16 := by
  simp [goodC, btw] at h
  omega
theorem good_all {c : Conf} (h : goodC c = true) : (1 ≤ c.l ∧ c.l ≤ 60000) ∧ (1 ≤ c.d ∧ c.d ≤ 10) ∧ (1 ≤ c.s ∧ c.s ≤ 16) ∧ (c.s ≤ c.k ∧ c.k ≤ 100) := by
  simp [goodC, btw] at h
  omega
theorem retainTo_le (m : MQ) (hg : goodC m.c = true) : 0 ≤ retainTo m ∧ retainTo m ≤ m.bodies.length := by
  have h1 := good_seg hg
  have h2 := leastTo_le m m.groups.length
  unfold retainTo
  rw [Int.tdiv_eq_ediv_of_nonneg (by omega)]
  have h3 := Int.ediv_nonneg (a := (leastTo m m.groups.length : Int)) (b := m.c.s) (by omega) (by omega)
  have h4 := Int.ediv_mul_le (leastTo m m.groups.length : Int) (b := m.c.s) (by omega)
  refine ⟨Int.mul_nonneg h3 (by omega), by omega⟩

attribute [local go_sem] over_cell

set_option maxRecDepth 100000 in
set_option maxHeartbeats 2000000 in
theorem yretain_any (i b : Nat) (m : MQ) (w : World) (T : Nat → Tag) (hy : YQ w T i b m.rq) (hok : m.Ok) :
    Calls Tryz.prog 83 #[.pointer (some ⟨b, 0, none⟩)] w fun e w' => e = .returned (.int .i64 (retainN m)) ∧ ∃ T', Step (fun t => ∃ r j, t = .y i r j) w T w' T' ∧ YQ w' T' i b (retainM m).rq := by
  have hy0 := hy
  obtain ⟨hsm, hfew, hfl, vB, vG, vi, vd, hB, hR, hG, hI⟩ := hy
  have hgl : m.rq.groups.length = m.groups.length := by simp [MQ.rq]
  have hbl : m.rq.bodies.length = m.bodies.length := by simp [MQ.rq]
  rw [hgl] at hG hfew
  rw [hbl] at hI hsm hR
  obtain ⟨go, gc, rfl⟩ := row_form hG
  obtain ⟨bo, bc, rfl⟩ := row_form hR
  have lb := hB.lt
  have c4 := hB.cell (j := 4) rfl
  have c6 := hB.cell (j := 6) rfl
  have c2 := hB.cell (j := 2) rfl
  have c5 := hB.cell (j := 5) rfl
  have c8 := hB.cell (j := 8) rfl
  have z5 := hB.frozen 5
  have z8 := hB.frozen 8
  simp only [List.getElem_toArray, List.getElem_cons_succ, List.getElem_cons_zero] at c4 c6 c2 c5 c8
  have e2 : m.rq.c = m.c := rfl
  have e5 : m.rq.floor = m.floor := rfl
  have e8 : m.rq.changes = m.changes := rfl
  rw [e2] at c2
  rw [e5] at c5
  rw [e8] at c8
  clear hgl hbl hfl hB hR e2 e5 e8
  go_enter Tryz.func83, Tryz.ntmps83
  go_wp2_with fail
  go_loopw [3, 4] (fun u3 u4 wr => ∃ (k : Nat), k ≤ m.groups.length ∧ u4 = .int .i64 k ∧ u3 = .int .i64 (leastTo m k) ∧ Below w.heap.size w wr) (fun _ u4 _ => m.groups.length - (intOf u4).toNat)
  case atStart => exact ⟨0, Nat.zero_le _, rfl, rfl, Below.refl _ _⟩
  case round =>
    obtain ⟨k, hk, rfl, rfl, hb⟩ := hrel
    have q6 := (hb.cell (p := ⟨b, 6, none⟩) lb).trans c6
    have hle := leastTo_le m k
    by_cases hlt : k < m.groups.length
    · obtain ⟨g, hg⟩ : ∃ g, m.groups[k]? = some g := ⟨_, List.getElem?_eq_getElem hlt⟩
      obtain ⟨gb, gc', e⟩ := row_some hG (by omega)
      cases e
      have lg := hG.lt
      obtain ⟨d0, d1, d2, d3⟩ := groupCells_at m.rq.groups vi vd k g.rg (rq_group hg)
      replace d0 := (hb.cell (p := ⟨gb, k * 4, none⟩) lg).trans (hG.cell d0)
      replace d1 := (hb.cell (p := ⟨gb, k * 4 + 1, none⟩) lg).trans (hG.cell d1)
      replace d2 := (hb.cell (p := ⟨gb, k * 4 + 2, none⟩) lg).trans (hG.cell d2)
      replace d3 := (hb.cell (p := ⟨gb, k * 4 + 3, none⟩) lg).trans (hG.cell d3)
      have hlen : Hid (g.items.length = m.bodies.length) := hide (hok.len g (List.mem_of_getElem? hg))
      have hst := hok.start g (List.mem_of_getElem? hg)
      have hgi := (hI k g.rg (rq_group hg)).1.step (step_below (fun _ => False) T hb) (fun h => h)
      obtain ⟨io, ic, hvi⟩ := row_form hgi
      obtain ⟨dO, dc, hvd⟩ := row_form (hI k g.rg (rq_group hg)).2
      rw [hvi] at d2 hgi
      rw [hvd] at d3
      rw [← hlen.out] at d2 hgi
      have eL : Hid (leastTo m (k + 1) = min (leastTo m k) (markOf g)) := hide (leastTo_step hg)
      go_wp2_with fail
      refine (ymark_any g.items g.name dO g.rg.dead.length dc g.start io ic wr T (.y i 3 k) hgi (by rw [hlen.out]; omega) hst.1 (by omega)).mono ?_
      rintro e w5 ⟨rfl, hb5⟩
      go_wp2
      refine ⟨⟨k + 1, by omega, by simp, ?_, hb.trans (hb5.mono hb.size)⟩, by simp [intOf]; omega⟩
      rw [eL.out]
      unfold markOf
      congr 1
      rw [Nat.min_def]
      split <;> split <;> omega
    · have hk2 : k = m.groups.length := by omega
      subst hk2
      have q2 := (hb.cell (p := ⟨b, 2, none⟩) lb).trans c2
      have q5 := (hb.cell (p := ⟨b, 5, none⟩) lb).trans c5
      have q8 := (hb.cell (p := ⟨b, 8, none⟩) lb).trans c8
      have y5 := (hb.frozen (p := ⟨b, 5, none⟩) lb).trans z5
      have y8 := (hb.frozen (p := ⟨b, 8, none⟩) lb).trans z8
      have lb2 := Nat.lt_of_lt_of_le lb hb.size
      have hyr := hy0.step (step_below (fun _ => False) T hb) (fun _ _ h => h)
      have f1 : Step (fun t => ∃ r j, t = .y i r j) w T wr T := step_below _ T hb
      have hsg := good_seg hok.good
      have hto := retainTo_le m hok.good
      have hfl := hok.fl
      have hs0 : ¬ m.c.s = 0 := by omega
      obtain ⟨L, hL⟩ : ∃ L : Nat, Hid (leastTo m m.groups.length = L) := ⟨_, hide rfl⟩
      obtain ⟨R, hR⟩ : ∃ R : Int, Hid (retainTo m = R) := ⟨_, hide rfl⟩
      have hLR : ((L : Int)).tdiv m.c.s * m.c.s = R := by rw [← hR.out, retainTo, hL.out]
      rw [hL.out] at hle ⊢
      rw [hR.out] at hto
      have hdiv : 0 ≤ (L : Int).tdiv m.c.s ∧ (L : Int).tdiv m.c.s ≤ 400 := by
        rw [Int.tdiv_eq_ediv_of_nonneg (by omega)]
        exact ⟨Int.ediv_nonneg (by omega) (by omega), Int.le_trans (Int.ediv_le_self _ (by omega)) (by omega)⟩
      clear c2 c4 c5 c6 c8 z5 z8 hI hG hy0
      go_wp2_with fail
      refine wp_region_over (by kernel_rfl) (by kernel_rfl) ?_
      repeat (go_big_quiet_step (fail))
      refine wpQuiet_nil ?_
      rintro _ ⟨x5, rfl⟩
      have hw : wrap64 (wrap64 ((L : Int) / m.c.s) * m.c.s) = R := by
        rw [Int.tdiv_eq_ediv_of_nonneg (by omega)] at hLR hdiv
        have h1 : wrap64 ((L : Int) / m.c.s) = (L : Int) / m.c.s := by unfold wrap64; omega
        rw [h1, hLR]
        unfold wrap64
        omega
      rw [hw]
      have hb5 := over_below wr x5
      generalize over wr x5 = w5 at *
      have p5 := (hb5.cell (p := ⟨b, 5, none⟩) lb2).trans q5
      have p6 := (hb5.cell (p := ⟨b, 6, none⟩) lb2).trans q6
      have p8 := (hb5.cell (p := ⟨b, 8, none⟩) lb2).trans q8
      have x5' := (hb5.frozen (p := ⟨b, 5, none⟩) lb2).trans y5
      have x8' := (hb5.frozen (p := ⟨b, 8, none⟩) lb2).trans y8
      have hy5 := hyr.step (step_below (fun _ => False) T hb5) (fun _ _ h => h)
      have f5 := f1.trans (step_below _ T hb5)
      clear q2 q5 q6 q8 y5 y8 hyr f1 hLR hdiv hw hb5 hb
      by_cases h0 : m.groups.length = 0
      · have hN : Hid (retainN m = 0) := hide (by simp [retainN, retainB, h0])
        have hM : Hid (retainM m = m) := hide (by simp [retainM, retainB, h0])
        rw [h0] at p6
        go_wp2
        go_ret
        exact ⟨by rw [hN.out]; rfl, T, f5, by rw [hM.out]; exact hy5⟩
      by_cases h1 : R ≤ m.floor
      · have hN : Hid (retainN m = 0) := hide (by simp [retainN, retainB, hR.out, h1])
        have hM : Hid (retainM m = m) := hide (by simp [retainM, retainB, hR.out, h1])
        go_wp2
        go_ret
        exact ⟨by rw [hN.out]; rfl, T, f5, by rw [hM.out]; exact hy5⟩
      · have hN : Hid (retainN m = R - m.floor) := hide (by simp [retainN, retainB, hR.out, h0, h1])
        have hM : Hid (retainM m = { m with floor := R, changes := wrap64 (m.changes + 1) }) := hide (by simp [retainM, retainB, hR.out, h0, h1])
        have hwr : wrap64 (R - m.floor) = R - m.floor := by unfold wrap64; omega
        go_wp2
        go_ret
        obtain ⟨k1, k2⟩ := hy5.setFloor R hto.1 hto.2
        obtain ⟨k3, k4⟩ := k1.setChanges (wrap64 (m.changes + 1))
        exact ⟨by rw [hN.out]; rfl, T, (f5.trans k2).trans k4, by rw [hM.out]; exact k3⟩

end Go.Proofs.YtockkceclkcgbaaGreatDoor

/- The document's Receive as plain mathematics, and the queue opened at one item of one group, for its walk. -/
namespace Go.Proofs.YtockkceclkcgbaaGreatDoor
open Go.RowKit

/-- What a Receive has made so far. -/
structure RS where
  items : List It
  dead : List Nat
  ch : Int
  out : List Dl

/-- is a message passed by? -/
def passed (m : MQ) (start : Int) (n : Nat) (x : It) : Bool := decide ((n : Int) < m.floor) || decide ((n : Int) < start) || decide (0 < x.done) || decide (m.time < x.till) || decide (m.time < x.after)
/-- one message is looked at -/
def recvOne (m : MQ) (start : Int) (st : RS) (n : Nat) (x : It) : RS :=
  bif passed m start n x then st else
  bif decide (m.c.d ≤ x.tries) then ⟨st.items.set n { x with done := 2 }, st.dead ++ [n], wrap64 (st.ch + 1), st.out⟩ else
  ⟨st.items.set n { x with tries := wrap64 (x.tries + 1), till := m.time + m.c.l }, st.dead, wrap64 (st.ch + 1), st.out ++ [⟨n, wrap64 (x.tries + 1), m.bodies.getD n ⟨#[]⟩⟩]⟩
/-- the places of the messages that were never delivered, among the first k -/
def freshTo (l : List It) : Nat → List Nat
  | 0 => []
  | k + 1 => match l[k]? with
    | none => freshTo l k
    | some x => bif decide (x.tries = 0) then freshTo l k ++ [k] else freshTo l k
/-- round k of the second loop -/
def recvStep (m : MQ) (start : Int) (fresh : List Nat) (st : RS) (k : Nat) : RS :=
  bif decide (k < m.bodies.length) then (match st.items[k]? with
    | none => st
    | some x => bif decide (x.tries = 0) then st else recvOne m start st k x)
  else match fresh[k - m.bodies.length]? with
    | none => st
    | some n => match st.items[n]? with
      | none => st
      | some x => recvOne m start st n x
/-- the rounds from k on, f of them at most -/
def recvRun (m : MQ) (start : Int) (fresh : List Nat) (n : Int) : Nat → Nat → RS → RS
  | 0, _, st => st
  | f + 1, k, st => bif decide (n ≤ st.out.length) then st else recvRun m start fresh n f (k + 1) (recvStep m start fresh st k)
def recvAll (m : MQ) (g : MG) (n : Int) : RS := recvRun m g.start (freshTo g.items g.items.length) n (m.bodies.length + (freshTo g.items g.items.length).length) 0 ⟨g.items, g.dead, m.changes, []⟩

def recvE (m : MQ) (s : ByteArray) (n : Int) : Int := match m.at s with
  | none => 10
  | some _ => bif btw n 1 32 then 0 else 11
/-- one group is another one, the count of changes too -/
def MQ.setG (m : MQ) (k : Nat) (st : RS) : MQ := { m with groups := m.groups.modify k (fun g => { g with items := st.items, dead := st.dead }), changes := st.ch }
def recvM (m : MQ) (s : ByteArray) (n : Int) : MQ := match m.at s with
  | none => m
  | some k => match m.groups[k]? with
    | none => m
    | some g => bif btw n 1 32 then m.setG k (recvAll m g n) else m
def recvL (m : MQ) (s : ByteArray) (n : Int) : List Dl := match m.at s with
  | none => []
  | some k => match m.groups[k]? with
    | none => []
    | some g => bif btw n 1 32 then (recvAll m g n).out else []

theorem setG_group {m : MQ} {k : Nat} {st : RS} {j : Nat} : (m.setG k st).groups[j]? = (m.groups[j]?).map (fun g => if k = j then { g with items := st.items, dead := st.dead } else g) := by
  simp [MQ.setG, List.getElem?_modify]
theorem setG_self {m : MQ} {k : Nat} {g : MG} (hg : m.groups[k]? = some g) : m.setG k ⟨g.items, g.dead, m.changes, []⟩ = m := by
  have h : m.groups.modify k (fun g' => { g' with items := g.items, dead := g.dead }) = m.groups := by
    apply List.ext_getElem?
    intro j
    rw [List.getElem?_modify]
    by_cases hk : k = j
    · subst hk
      simp [hg]
    · cases m.groups[j]? <;> simp [hk]
  unfold MQ.setG
  simp only [h]
theorem setG_at {m : MQ} {k : Nat} {g : MG} {st : RS} (hg : m.groups[k]? = some g) : (m.setG k st).groups[k]? = some { g with items := st.items, dead := st.dead } := by simp [setG_group, hg]
theorem setG_ok {m : MQ} {k : Nat} {st : RS} (h : m.Ok) (h1 : st.items.length = m.bodies.length) (h2 : ∀ n ∈ st.dead, n < m.bodies.length) : (m.setG k st).Ok := by
  have hg : ∀ g ∈ (m.setG k st).groups, ∃ g0 ∈ m.groups, g.start = g0.start ∧ ((g.items = g0.items ∧ g.dead = g0.dead) ∨ (g.items = st.items ∧ g.dead = st.dead)) := by
    intro g hg
    obtain ⟨j, hj⟩ := List.getElem?_of_mem hg
    rw [setG_group] at hj
    obtain ⟨g0, h0, rfl⟩ := Option.map_eq_some_iff.1 hj
    refine ⟨g0, List.mem_of_getElem? h0, ?_⟩
    by_cases hk : k = j <;> simp [hk]
  refine ⟨h.good, fun g hg1 => ?_, fun g hg1 d hd => ?_, h.time, h.fl, fun g hg1 => ?_⟩
  · obtain ⟨g0, h0, _, (⟨e, _⟩ | ⟨e, _⟩)⟩ := hg g hg1
    · rw [e]; exact h.len g0 h0
    · rw [e]; exact h1
  · obtain ⟨g0, h0, _, (⟨_, e⟩ | ⟨_, e⟩)⟩ := hg g hg1
    · rw [e] at hd; exact h.dead g0 h0 d hd
    · rw [e] at hd; exact h2 d hd
  · obtain ⟨g0, h0, e, _⟩ := hg g hg1
    rw [e]; exact h.start g0 h0

theorem groupCells_deads : ∀ (l : List RG) (vi vd : Nat → Value) (k : Nat) (v : Value), k < l.length → (groupCells l vi vd).set (k * 4 + 3) v = groupCells l vi (fun j => if j = k then v else vd j)
  | [], _, _, _, _, h => by simp at h
  | g :: r, vi, vd, 0, v, _ => by simp [groupCells]
  | g :: r, vi, vd, k + 1, v, h => by
    have h2 := groupCells_deads r (fun k => vi (k + 1)) (fun k => vd (k + 1)) k v (by simpa using h)
    rw [show (k + 1) * 4 + 3 = (k * 4 + 3) + 4 by omega]
    simp [groupCells, h2]
theorem setG_nameStart {m : MQ} {k : Nat} {st : RS} : (m.setG k st).rq.groups.map (fun g => (g.name, g.start)) = m.rq.groups.map (fun g => (g.name, g.start)) := by
  apply List.ext_getElem?
  intro j
  simp only [MQ.rq, List.map_map, List.getElem?_map, setG_group, Option.map_map]
  cases m.groups[j]? with
  | none => rfl
  | some g => by_cases h : k = j <;> simp [h, MG.rg]

/-- the list of the dead of one group is longer -/
theorem YQ.addDead {w w3 : World} {T T3 : Nat → Tag} {i b : Nat} {m : MQ} {k gb gc : Nat} {g : MG} {v : Value} {d : List Nat} (hy : YQ w T i b m.rq) (hg : m.groups[k]? = some g)
    (c6 : w.cell? ⟨b, 6, none⟩ = some (.slice (some ⟨gb, 0, none⟩) m.groups.length gc)) (hs : Step (fun t => t = .y i 4 k) w T w3 T3) (hr : Row w3 T3 (.y i 4 k) 3 1 v d.length (d.map natV)) :
    YQ (w3.setCell ⟨gb, k * 4 + 3, none⟩ v) T3 i b (m.setG k ⟨g.items, d, m.changes, []⟩).rq ∧ Step (fun t => ∃ r j, t = .y i r j) w T (w3.setCell ⟨gb, k * 4 + 3, none⟩ v) T3 := by
  obtain ⟨hsm, hfew, hfl, vB, vG, vi, vd, hB, hR, hG, hI⟩ := hy
  have hkl : k < m.groups.length := (List.getElem?_eq_some_iff.1 hg).1
  have hgl : m.rq.groups.length = m.groups.length := by simp [MQ.rq]
  obtain ⟨gb', gc', rfl⟩ := row_some hG (by omega)
  have c6' := hB.cell (j := 6) rfl
  simp only [List.getElem_toArray, List.getElem_cons_succ, List.getElem_cons_zero] at c6'
  rw [c6] at c6'
  have e1 : gb' = gb := by simpa using (congrArg (fun o => match o with | some (Value.slice (some a) _ _) => a.block | _ => 0) c6').symm
  subst e1
  have hG3 := hG.step hs (by simp)
  have hs4 : Step (fun t => t = .y i 2 0) w3 T3 (w3.setCell ⟨gb', k * 4 + 3, none⟩ v) T3 := step_setCell _ _ _ _ _ (hG3.2 gb' rfl)
  have hset := hG3.set (j := k * 4 + 3) (by rw [groupCells_length]; omega) v
  have hcells : (groupCells m.rq.groups vi vd).set (k * 4 + 3) v = groupCells (m.setG k ⟨g.items, d, m.changes, []⟩).rq.groups vi (fun j => if j = k then v else vd j) := by
    rw [groupCells_deads _ _ _ _ _ (by omega)]
    exact (groupCells_congr _ _ _ _ _ _ setG_nameStart (fun _ _ => rfl) (fun _ _ => rfl)).symm
  rw [hcells] at hset
  refine ⟨⟨hsm, by simpa [MQ.rq, MQ.setG] using hfew, hfl, vB, _, vi, fun j => if j = k then v else vd j, (hB.step hs (by simp)).step hs4 (by simp), (hR.step hs (by simp)).step hs4 (by simp), ?_, fun j r hj => ?_⟩, (hs.mono (fun t ht => ⟨4, k, ht⟩)).trans (hs4.mono (fun t ht => ⟨2, 0, ht⟩))⟩
  · simpa [MQ.rq, MQ.setG] using hset
  · have h0 : (m.setG k ⟨g.items, d, m.changes, []⟩).groups[j]?.map MG.rg = some r := by simpa [MQ.rq] using hj
    rw [setG_group] at h0
    obtain ⟨g1, h1, h2⟩ := Option.map_eq_some_iff.1 h0
    obtain ⟨g0, h3, h4⟩ := Option.map_eq_some_iff.1 h1
    by_cases hjk : k = j
    · subst hjk
      rw [hg] at h3
      cases h3
      simp only [if_true] at h4
      subst h4
      subst h2
      have hi := (hI k g.rg (rq_group hg)).1
      refine ⟨(hi.step hs (by simp)).step hs4 (by simp), ?_⟩
      simp only [if_true]
      have := hr.step hs4 (by simp)
      simpa [MG.rg] using this
    · rw [if_neg hjk] at h4
      subst h4
      subst h2
      have hne : ¬ j = k := fun e => hjk e.symm
      simp only [if_neg hne]
      exact ((hI j g0.rg (rq_group h3)).step hs (by simp) (by simp; exact fun e => hjk e.symm)).step hs4 (by simp) (by simp)

/-- The queue opened at one group: the cells that Receive reads, its rows. -/
structure Look (w : World) (T : Nat → Tag) (i b : Nat) (m : MQ) (k : Nat) (g : MG) (gb gc : Nat) (io : Option Addr) (ic : Nat) (dO : Option Addr) (dc : Nat) (bo : Option Addr) (bc : Nat) : Prop where
  c0 : w.cell? ⟨b, 0, none⟩ = some (.int .i64 m.c.l)
  c1 : w.cell? ⟨b, 1, none⟩ = some (.int .i64 m.c.d)
  c4 : w.cell? ⟨b, 4, none⟩ = some (.slice bo m.bodies.length bc)
  c5 : w.cell? ⟨b, 5, none⟩ = some (.int .i64 m.floor)
  c6 : w.cell? ⟨b, 6, none⟩ = some (.slice (some ⟨gb, 0, none⟩) m.groups.length gc)
  c7 : w.cell? ⟨b, 7, none⟩ = some (.int .i64 m.time)
  c8 : w.cell? ⟨b, 8, none⟩ = some (.int .i64 m.changes)
  d1 : w.cell? ⟨gb, k * 4 + 1, none⟩ = some (.int .i64 g.start)
  d2 : w.cell? ⟨gb, k * 4 + 2, none⟩ = some (.slice io m.bodies.length ic)
  d3 : w.cell? ⟨gb, k * 4 + 3, none⟩ = some (.slice dO g.dead.length dc)
  items : Row w T (.y i 3 k) 111 4 (.slice io m.bodies.length ic) m.bodies.length (itVals g.items)
  dead : Row w T (.y i 4 k) 3 1 (.slice dO g.dead.length dc) g.dead.length (g.dead.map natV)
  bod : Row w T (.y i 1 0) 9 1 (.slice bo m.bodies.length bc) m.bodies.length (m.bodies.map .string)
  fb : ∀ j, w.frozen? ⟨b, j, none⟩ = false
  fg : ∀ j, w.frozen? ⟨gb, j, none⟩ = false
  lb : b < w.heap.size
  lg : gb < w.heap.size
  tb : T b = .y i 0 0
  tg : T gb = .y i 2 0
  n400 : m.bodies.length ≤ 400
  k6 : k < m.groups.length ∧ m.groups.length ≤ 6

theorem YQ.look {w : World} {T : Nat → Tag} {i b : Nat} {m : MQ} {k gb gc : Nat} {g : MG} (hy : YQ w T i b m.rq) (hg : m.groups[k]? = some g)
    (c6 : w.cell? ⟨b, 6, none⟩ = some (.slice (some ⟨gb, 0, none⟩) m.groups.length gc)) : ∃ io ic dO dc bo bc, Look w T i b m k g gb gc io ic dO dc bo bc := by
  obtain ⟨hsm, hfew, hfl, vB, vG, vi, vd, hB, hR, hG, hI⟩ := hy
  have hkl : k < m.groups.length := (List.getElem?_eq_some_iff.1 hg).1
  have hgl : m.rq.groups.length = m.groups.length := by simp [MQ.rq]
  have hbl : m.rq.bodies.length = m.bodies.length := by simp [MQ.rq]
  rw [hgl] at hG hfew
  rw [hbl] at hR hI hsm
  obtain ⟨gb', gc', rfl⟩ := row_some hG (by omega)
  have c6' := hB.cell (j := 6) rfl
  simp only [List.getElem_toArray, List.getElem_cons_succ, List.getElem_cons_zero] at c6'
  rw [c6] at c6'
  have e1 : gb' = gb := by simpa using (congrArg (fun o => match o with | some (Value.slice (some a) _ _) => a.block | _ => 0) c6').symm
  subst e1
  obtain ⟨bo, bc, rfl⟩ := row_form hR
  have hi := (hI k g.rg (rq_group hg)).1
  have hd := (hI k g.rg (rq_group hg)).2
  obtain ⟨io, ic, hvi⟩ := row_form hi
  obtain ⟨dO, dc, hvd⟩ := row_form hd
  have hdl : g.rg.dead.length = g.dead.length := by simp [MG.rg]
  obtain ⟨_, d1, d2, d3⟩ := groupCells_at m.rq.groups vi vd k g.rg (rq_group hg)
  rw [hvi] at d2 hi
  rw [hvd] at d3 hd
  rw [hdl] at d3 hd
  exact ⟨io, ic, dO, dc, bo, bc, hB.cell (j := 0) rfl, hB.cell (j := 1) rfl, hB.cell (j := 4) rfl, hB.cell (j := 5) rfl, c6, hB.cell (j := 7) rfl, hB.cell (j := 8) rfl, hG.cell d1, hG.cell d2, hG.cell d3, hi, hd, hR, hB.frozen, hG.frozen, hB.lt, hG.lt, hB.1, hG.2 gb' rfl, hsm, hkl, hfew⟩

end Go.Proofs.YtockkceclkcgbaaGreatDoor

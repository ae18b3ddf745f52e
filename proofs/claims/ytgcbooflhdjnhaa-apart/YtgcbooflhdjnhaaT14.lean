/- The document's Receive as plain mathematics, and the queue opened at one item of one group, for its walk. -/
import Derived.Test.YtgcbooflhdjnhaaT10
import Derived.Test.YtgcbooflhdjnhaaT12
import Derived.Test.YtgcbooflhdjnhaaT13
namespace Go.Proofs.Ytgcbooflhdjnhaa
open Go.RowKit

/-- What a Receive has made so far. -/
structure RS where
  items : List It
  dead : List Nat
  ch : Int
  out : List Dl

/-- is a message passed by? -/
def passed (m : MQ) (start : Int) (n : Nat) (x : It) : Bool := decide ((n : Int) < m.floor) || decide ((n : Int) < start) || decide (0 < x.done) || decide (m.time < x.till) || decide (m.time < x.after)
/-- one message is looked at -/
def recvOne (m : MQ) (start : Int) (st : RS) (n : Nat) (x : It) : RS :=
  bif passed m start n x then st else
  bif decide (m.c.d ≤ x.tries) then ⟨st.items.set n { x with done := 2 }, st.dead ++ [n], wrap64 (st.ch + 1), st.out⟩ else
  ⟨st.items.set n { x with tries := wrap64 (x.tries + 1), till := m.time + m.c.l }, st.dead, wrap64 (st.ch + 1), st.out ++ [⟨n, wrap64 (x.tries + 1), m.bodies.getD n ⟨#[]⟩⟩]⟩
/-- the places of the messages that were never delivered, among the first k -/
def freshTo (l : List It) : Nat → List Nat
  | 0 => []
  | k + 1 => match l[k]? with
    | none => freshTo l k
    | some x => bif decide (x.tries = 0) then freshTo l k ++ [k] else freshTo l k
/-- round k of the second loop -/
def recvStep (m : MQ) (start : Int) (fresh : List Nat) (st : RS) (k : Nat) : RS :=
  bif decide (k < m.bodies.length) then (match st.items[k]? with
    | none => st
    | some x => bif decide (x.tries = 0) then st else recvOne m start st k x)
  else match fresh[k - m.bodies.length]? with
    | none => st
    | some n => match st.items[n]? with
      | none => st
      | some x => recvOne m start st n x
/-- the rounds from k on, f of them at most -/
def recvRun (m : MQ) (start : Int) (fresh : List Nat) (n : Int) : Nat → Nat → RS → RS
  | 0, _, st => st
  | f + 1, k, st => bif decide (n ≤ st.out.length) then st else recvRun m start fresh n f (k + 1) (recvStep m start fresh st k)
def recvAll (m : MQ) (g : MG) (n : Int) : RS := recvRun m g.start (freshTo g.items g.items.length) n (m.bodies.length + (freshTo g.items g.items.length).length) 0 ⟨g.items, g.dead, m.changes, []⟩

def recvE (m : MQ) (s : ByteArray) (n : Int) : Int := match m.at s with
  | none => 10
  | some _ => bif btw n 1 32 then 0 else 11
/-- one group is another one, the count of changes too -/
def MQ.setG (m : MQ) (k : Nat) (st : RS) : MQ := { m with groups := m.groups.modify k (fun g => { g with items := st.items, dead := st.dead }), changes := st.ch }
def recvM (m : MQ) (s : ByteArray) (n : Int) : MQ := match m.at s with
  | none => m
  | some k => match m.groups[k]? with
    | none => m
    | some g => bif btw n 1 32 then m.setG k (recvAll m g n) else m
def recvL (m : MQ) (s : ByteArray) (n : Int) : List Dl := match m.at s with
  | none => []
  | some k => match m.groups[k]? with
    | none => []
    | some g => bif btw n 1 32 then (recvAll m g n).out else []

theorem setG_group {m : MQ} {k : Nat} {st : RS} {j : Nat} : (m.setG k st).groups[j]? = (m.groups[j]?).map (fun g => if k = j then { g with items := st.items, dead := st.dead } else g) := by
  simp [MQ.setG, List.getElem?_modify]
theorem setG_self {m : MQ} {k : Nat} {g : MG} (hg : m.groups[k]? = some g) : m.setG k ⟨g.items, g.dead, m.changes, []⟩ = m := by
  have h : m.groups.modify k (fun g' => { g' with items := g.items, dead := g.dead }) = m.groups := by
    apply List.ext_getElem?
    intro j
    rw [List.getElem?_modify]
    by_cases hk : k = j
    · subst hk
      simp [hg]
    · cases m.groups[j]? <;> simp [hk]
  unfold MQ.setG
  simp only [h]
theorem setG_at {m : MQ} {k : Nat} {g : MG} {st : RS} (hg : m.groups[k]? = some g) : (m.setG k st).groups[k]? = some { g with items := st.items, dead := st.dead } := by simp [setG_group, hg]
theorem setG_ok {m : MQ} {k : Nat} {st : RS} (h : m.Ok) (h1 : st.items.length = m.bodies.length) (h2 : ∀ n ∈ st.dead, n < m.bodies.length) : (m.setG k st).Ok := by
  have hg : ∀ g ∈ (m.setG k st).groups, ∃ g0 ∈ m.groups, g.start = g0.start ∧ ((g.items = g0.items ∧ g.dead = g0.dead) ∨ (g.items = st.items ∧ g.dead = st.dead)) := by
    intro g hg
    obtain ⟨j, hj⟩ := List.getElem?_of_mem hg
    rw [setG_group] at hj
    obtain ⟨g0, h0, rfl⟩ := Option.map_eq_some_iff.1 hj
    refine ⟨g0, List.mem_of_getElem? h0, ?_⟩
    by_cases hk : k = j <;> simp [hk]
  refine ⟨h.good, fun g hg1 => ?_, fun g hg1 d hd => ?_, h.time, h.fl, fun g hg1 => ?_⟩
  · obtain ⟨g0, h0, _, (⟨e, _⟩ | ⟨e, _⟩)⟩ := hg g hg1
    · rw [e]; exact h.len g0 h0
    · rw [e]; exact h1
  · obtain ⟨g0, h0, _, (⟨_, e⟩ | ⟨_, e⟩)⟩ := hg g hg1
    · rw [e] at hd; exact h.dead g0 h0 d hd
    · rw [e] at hd; exact h2 d hd
  · obtain ⟨g0, h0, e, _⟩ := hg g hg1
    rw [e]; exact h.start g0 h0

theorem groupCells_deads : ∀ (l : List RG) (vi vd : Nat → Value) (k : Nat) (v : Value), k < l.length → (groupCells l vi vd).set (k * 4 + 3) v = groupCells l vi (fun j => if j = k then v else vd j)
  | [], _, _, _, _, h => by simp at h
  | g :: r, vi, vd, 0, v, _ => by simp [groupCells]
  | g :: r, vi, vd, k + 1, v, h => by
    have h2 := groupCells_deads r (fun k => vi (k + 1)) (fun k => vd (k + 1)) k v (by simpa using h)
    rw [show (k + 1) * 4 + 3 = (k * 4 + 3) + 4 by omega]
    simp [groupCells, h2]
theorem setG_nameStart {m : MQ} {k : Nat} {st : RS} : (m.setG k st).rq.groups.map (fun g => (g.name, g.start)) = m.rq.groups.map (fun g => (g.name, g.start)) := by
  apply List.ext_getElem?
  intro j
  simp only [MQ.rq, List.map_map, List.getElem?_map, setG_group, Option.map_map]
  cases m.groups[j]? with
  | none => rfl
  | some g => by_cases h : k = j <;> simp [h, MG.rg]

/-- the list of the dead of one group is longer -/
theorem YQ.addDead {w w3 : World} {T T3 : Nat → Tag} {i b : Nat} {m : MQ} {k gb gc : Nat} {g : MG} {v : Value} {d : List Nat} (hy : YQ w T i b m.rq) (hg : m.groups[k]? = some g)
    (c6 : w.cell? ⟨b, 6, none⟩ = some (.slice (some ⟨gb, 0, none⟩) m.groups.length gc)) (hs : Step (fun t => t = .y i 4 k) w T w3 T3) (hr : Row w3 T3 (.y i 4 k) 3 1 v d.length (d.map natV)) :
    YQ (w3.setCell ⟨gb, k * 4 + 3, none⟩ v) T3 i b (m.setG k ⟨g.items, d, m.changes, []⟩).rq ∧ Step (fun t => ∃ r j, t = .y i r j) w T (w3.setCell ⟨gb, k * 4 + 3, none⟩ v) T3 := by
  obtain ⟨hsm, hfew, hfl, vB, vG, vi, vd, hB, hR, hG, hI⟩ := hy
  have hkl : k < m.groups.length := (List.getElem?_eq_some_iff.1 hg).1
  have hgl : m.rq.groups.length = m.groups.length := by simp [MQ.rq]
  obtain ⟨gb', gc', rfl⟩ := row_some hG (by omega)
  have c6' := hB.cell (j := 6) rfl
  simp only [List.getElem_toArray, List.getElem_cons_succ, List.getElem_cons_zero] at c6'
  rw [c6] at c6'
  have e1 : gb' = gb := by simpa using (congrArg (fun o => match o with | some (Value.slice (some a) _ _) => a.block | _ => 0) c6').symm
  subst e1
  have hG3 := hG.step hs (by simp)
  have hs4 : Step (fun t => t = .y i 2 0) w3 T3 (w3.setCell ⟨gb', k * 4 + 3, none⟩ v) T3 := step_setCell _ _ _ _ _ (hG3.2 gb' rfl)
  have hset := hG3.set (j := k * 4 + 3) (by rw [groupCells_length]; omega) v
  have hcells : (groupCells m.rq.groups vi vd).set (k * 4 + 3) v = groupCells (m.setG k ⟨g.items, d, m.changes, []⟩).rq.groups vi (fun j => if j = k then v else vd j) := by
    rw [groupCells_deads _ _ _ _ _ (by omega)]
    exact (groupCells_congr _ _ _ _ _ _ setG_nameStart (fun _ _ => rfl) (fun _ _ => rfl)).symm
  rw [hcells] at hset
  refine ⟨⟨hsm, by simpa [MQ.rq, MQ.setG] using hfew, hfl, vB, _, vi, fun j => if j = k then v else vd j, (hB.step hs (by simp)).step hs4 (by simp), (hR.step hs (by simp)).step hs4 (by simp), ?_, fun j r hj => ?_⟩, (hs.mono (fun t ht => ⟨4, k, ht⟩)).trans (hs4.mono (fun t ht => ⟨2, 0, ht⟩))⟩
  · simpa [MQ.rq, MQ.setG] using hset
  · have h0 : (m.setG k ⟨g.items, d, m.changes, []⟩).groups[j]?.map MG.rg = some r := by simpa [MQ.rq] using hj
    rw [setG_group] at h0
    obtain ⟨g1, h1, h2⟩ := Option.map_eq_some_iff.1 h0
    obtain ⟨g0, h3, h4⟩ := Option.map_eq_some_iff.1 h1
    by_cases hjk : k = j
    · subst hjk
      rw [hg] at h3
      cases h3
      simp only [if_true] at h4
      subst h4
      subst h2
      have hi := (hI k g.rg (rq_group hg)).1
      refine ⟨(hi.step hs (by simp)).step hs4 (by simp), ?_⟩
      simp only [if_true]
      have := hr.step hs4 (by simp)
      simpa [MG.rg] using this
    · rw [if_neg hjk] at h4
      subst h4
      subst h2
      have hne : ¬ j = k := fun e => hjk e.symm
      simp only [if_neg hne]
      exact ((hI j g0.rg (rq_group h3)).step hs (by simp) (by simp; exact fun e => hjk e.symm)).step hs4 (by simp) (by simp)

/-- The queue opened at one group: the cells that Receive reads, its rows. -/
structure Look (w : World) (T : Nat → Tag) (i b : Nat) (m : MQ) (k : Nat) (g : MG) (gb gc : Nat) (io : Option Addr) (ic : Nat) (dO : Option Addr) (dc : Nat) (bo : Option Addr) (bc : Nat) : Prop where
  c0 : w.cell? ⟨b, 0, none⟩ = some (.int .i64 m.c.l)
  c1 : w.cell? ⟨b, 1, none⟩ = some (.int .i64 m.c.d)
  c4 : w.cell? ⟨b, 4, none⟩ = some (.slice bo m.bodies.length bc)
  c5 : w.cell? ⟨b, 5, none⟩ = some (.int .i64 m.floor)
  c6 : w.cell? ⟨b, 6, none⟩ = some (.slice (some ⟨gb, 0, none⟩) m.groups.length gc)
  c7 : w.cell? ⟨b, 7, none⟩ = some (.int .i64 m.time)
  c8 : w.cell? ⟨b, 8, none⟩ = some (.int .i64 m.changes)
  d1 : w.cell? ⟨gb, k * 4 + 1, none⟩ = some (.int .i64 g.start)
  d2 : w.cell? ⟨gb, k * 4 + 2, none⟩ = some (.slice io m.bodies.length ic)
  d3 : w.cell? ⟨gb, k * 4 + 3, none⟩ = some (.slice dO g.dead.length dc)
  items : Row w T (.y i 3 k) 110 4 (.slice io m.bodies.length ic) m.bodies.length (itVals g.items)
  dead : Row w T (.y i 4 k) 3 1 (.slice dO g.dead.length dc) g.dead.length (g.dead.map natV)
  bod : Row w T (.y i 1 0) 9 1 (.slice bo m.bodies.length bc) m.bodies.length (m.bodies.map .string)
  fb : ∀ j, w.frozen? ⟨b, j, none⟩ = false
  fg : ∀ j, w.frozen? ⟨gb, j, none⟩ = false
  lb : b < w.heap.size
  lg : gb < w.heap.size
  tb : T b = .y i 0 0
  tg : T gb = .y i 2 0
  n400 : m.bodies.length ≤ 400
  k6 : k < m.groups.length ∧ m.groups.length ≤ 6

theorem YQ.look {w : World} {T : Nat → Tag} {i b : Nat} {m : MQ} {k gb gc : Nat} {g : MG} (hy : YQ w T i b m.rq) (hg : m.groups[k]? = some g)
    (c6 : w.cell? ⟨b, 6, none⟩ = some (.slice (some ⟨gb, 0, none⟩) m.groups.length gc)) : ∃ io ic dO dc bo bc, Look w T i b m k g gb gc io ic dO dc bo bc := by
  obtain ⟨hsm, hfew, hfl, vB, vG, vi, vd, hB, hR, hG, hI⟩ := hy
  have hkl : k < m.groups.length := (List.getElem?_eq_some_iff.1 hg).1
  have hgl : m.rq.groups.length = m.groups.length := by simp [MQ.rq]
  have hbl : m.rq.bodies.length = m.bodies.length := by simp [MQ.rq]
  rw [hgl] at hG hfew
  rw [hbl] at hR hI hsm
  obtain ⟨gb', gc', rfl⟩ := row_some hG (by omega)
  have c6' := hB.cell (j := 6) rfl
  simp only [List.getElem_toArray, List.getElem_cons_succ, List.getElem_cons_zero] at c6'
  rw [c6] at c6'
  have e1 : gb' = gb := by simpa using (congrArg (fun o => match o with | some (Value.slice (some a) _ _) => a.block | _ => 0) c6').symm
  subst e1
  obtain ⟨bo, bc, rfl⟩ := row_form hR
  have hi := (hI k g.rg (rq_group hg)).1
  have hd := (hI k g.rg (rq_group hg)).2
  obtain ⟨io, ic, hvi⟩ := row_form hi
  obtain ⟨dO, dc, hvd⟩ := row_form hd
  have hdl : g.rg.dead.length = g.dead.length := by simp [MG.rg]
  obtain ⟨_, d1, d2, d3⟩ := groupCells_at m.rq.groups vi vd k g.rg (rq_group hg)
  rw [hvi] at d2 hi
  rw [hvd] at d3 hd
  rw [hdl] at d3 hd
  exact ⟨io, ic, dO, dc, bo, bc, hB.cell (j := 0) rfl, hB.cell (j := 1) rfl, hB.cell (j := 4) rfl, hB.cell (j := 5) rfl, c6, hB.cell (j := 7) rfl, hB.cell (j := 8) rfl, hG.cell d1, hG.cell d2, hG.cell d3, hi, hd, hR, hB.frozen, hG.frozen, hB.lt, hG.lt, hB.1, hG.2 gb' rfl, hsm, hkl, hfew⟩

end Go.Proofs.Ytgcbooflhdjnhaa

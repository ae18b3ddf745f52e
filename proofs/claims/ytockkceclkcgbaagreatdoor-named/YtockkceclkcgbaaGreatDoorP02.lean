/- A run of package quaykeep in memory, its row of groups named: what is read of it, and what a write leaves. -/
import Derived.Test.YtockkceclkcgbaaGreatDoorP01
import Derived.Test.YtockkceclkcgbaaGreatDoorT11
namespace Go.Proofs.YtockkceclkcgbaaGreatDoor
open Go.RowKit

def updF {α : Type} (f : Nat → α) (k : Nat) (v : α) : Nat → α := fun j => if j = k then v else f j
theorem updF_same {α : Type} (f : Nat → α) (k : Nat) (v : α) : updF f k v k = v := by simp [updF]
theorem updF_other {α : Type} (f : Nat → α) (k : Nat) (v : α) {j : Nat} (h : ¬ j = k) : updF f k v j = f j := by simp [updF, h]
theorem updF_self {α : Type} (f : Nat → α) (k : Nat) : updF f k (f k) = f := by
  funext j
  by_cases h : j = k <;> simp [updF, h]
theorem updF_twice {α : Type} (f : Nat → α) (k : Nat) (v u : α) : updF (updF f k v) k u = updF f k u := by
  funext j
  by_cases h : j = k <;> simp [updF, h]

/-- what a run holds: the queue's own numbers; U: of each group what was seen; L: what was delivered to it -/
def MQ.rvU (m : MQ) (U : Nat → List It) (L : Nat → List Nat) : RV :=
  ⟨m.c, m.bodies.map .string, m.floor, m.groups.mapIdx (fun k g => ⟨g.name, g.start, seenVals (U k), (L k).map natV⟩), m.time, true, true, true⟩
theorem rvU_groups (m : MQ) (U : Nat → List It) (L : Nat → List Nat) (k : Nat) : (m.rvU U L).groups[k]? = (m.groups[k]?).map (fun g => ⟨g.name, g.start, seenVals (U k), (L k).map natV⟩) := by simp [MQ.rvU]
theorem rvU_len (m : MQ) (U : Nat → List It) (L : Nat → List Nat) : (m.rvU U L).groups.length = m.groups.length := by simp [MQ.rvU]
theorem rvU_blen (m : MQ) (U : Nat → List It) (L : Nat → List Nat) : (m.rvU U L).bodies.length = m.bodies.length := by simp [MQ.rvU]
theorem rvU_nameStart (m m' : MQ) (U U' : Nat → List It) (L L' : Nat → List Nat) (h : m'.groups.map (fun g => (g.name, g.start)) = m.groups.map (fun g => (g.name, g.start))) :
    (m'.rvU U' L').groups.map (fun g => (g.name, g.start)) = (m.rvU U L).groups.map (fun g => (g.name, g.start)) := by
  apply List.ext_getElem?
  intro k
  have hk := congrArg (fun l => l[k]?) h
  simp only [List.getElem?_map] at hk
  simp only [List.getElem?_map, rvU_groups, Option.map_map]
  cases h1 : m.groups[k]? <;> cases h2 : m'.groups[k]? <;> simp [h1, h2] at hk ⊢
  exact hk
/-- the same numbers, the same groups: the same run -/
theorem rvU_congr {m m' : MQ} {U U' : Nat → List It} {L L' : Nat → List Nat} (hc : m'.c = m.c) (hb : m'.bodies = m.bodies) (hf : m'.floor = m.floor) (ht : m'.time = m.time)
    (hg : m'.groups.map (fun g => (g.name, g.start)) = m.groups.map (fun g => (g.name, g.start))) (hU : ∀ k, k < m.groups.length → seenVals (U' k) = seenVals (U k)) (hL : ∀ k, k < m.groups.length → L' k = L k) : m'.rvU U' L' = m.rvU U L := by
  have e : (m'.rvU U' L').groups = (m.rvU U L).groups := by
    apply List.ext_getElem?
    intro k
    have hk := congrArg (fun l => l[k]?) hg
    simp only [List.getElem?_map] at hk
    simp only [rvU_groups]
    cases h1 : m.groups[k]? with
    | none =>
      rw [h1] at hk
      cases h2 : m'.groups[k]? with
      | none => rfl
      | some g' => rw [h2] at hk; cases hk
    | some g =>
      rw [h1] at hk
      have hlt := (List.getElem?_eq_some_iff.1 h1).1
      cases h2 : m'.groups[k]? with
      | none => rw [h2] at hk; cases hk
      | some g' =>
        rw [h2] at hk
        simp at hk
        simp [hk.1, hk.2, hU k hlt, hL k hlt]
  unfold MQ.rvU at e ⊢
  simp only at e
  rw [e, hc, hb, hf, ht]

/-- what the queue itself says of a group's messages -/
def itemsOf (m : MQ) (k : Nat) : List It := match m.groups[k]? with
  | some g => g.items
  | none => []
theorem itemsOf_at {m : MQ} {k : Nat} {g : MG} (h : m.groups[k]? = some g) : itemsOf m k = g.items := by simp [itemsOf, h]
def MQ.rv (m : MQ) (L : Nat → List Nat) : RV := m.rvU (itemsOf m) L

/-- The run of number i in block b, its queue in block bx, its groups in block gb. -/
structure RunG (w : World) (T : Nat → Tag) (i b bx gb gc : Nat) (m : MQ) (U : Nat → List It) (L : Nat → List Nat) : Prop where
  small : m.bodies.length ≤ 400
  few : m.groups.length ≤ 6
  mem : ∃ vB vi vd, Blk w T (.run i) b (runCells bx (m.rvU U L) vB (.slice (some ⟨gb, 0, none⟩) m.groups.length gc)) 57 ∧
    Row w T (.rbod i) 9 1 vB m.bodies.length (m.bodies.map .string) ∧ Row w T (.rgrp i) 63 4 (.slice (some ⟨gb, 0, none⟩) m.groups.length gc) m.groups.length (groupCells (m.rvU U L).groups vi vd) ∧
    ∀ k g, m.groups[k]? = some g → Row w T (.rseen i k) 67 4 (vi k) m.bodies.length (seenVals (U k)) ∧ Row w T (.rlast i k) 3 1 (vd k) (L k).length ((L k).map natV)

theorem RunG.run {w : World} {T : Nat → Tag} {i b bx gb gc : Nat} {m : MQ} {U : Nat → List It} {L : Nat → List Nat} (h : RunG w T i b bx gb gc m U L) : RunM w T i b bx (m.rvU U L) := by
  obtain ⟨h1, h2, vB, vi, vd, hB, hR, hG, hI⟩ := h
  refine ⟨by rw [rvU_blen]; exact h1, by rw [rvU_len]; exact h2, vB, _, vi, vd, hB, by rw [rvU_blen]; exact hR, by rw [rvU_len]; exact hG, fun k r hk => ?_⟩
  rw [rvU_groups] at hk
  obtain ⟨g, hg, rfl⟩ := Option.map_eq_some_iff.1 hk
  obtain ⟨q1, q2⟩ := hI k g hg
  refine ⟨by rw [rvU_blen]; exact q1, ?_⟩
  simpa using q2
theorem RunM.named {w : World} {T : Nat → Tag} {i b bx : Nat} {m : MQ} {U : Nat → List It} {L : Nat → List Nat} (h : RunM w T i b bx (m.rvU U L)) (hp : 0 < m.groups.length) : ∃ gb gc, RunG w T i b bx gb gc m U L := by
  obtain ⟨h1, h2, vB, vG, vi, vd, hB, hR, hG, hI⟩ := h
  rw [rvU_blen] at h1 hR
  rw [rvU_len] at h2 hG
  obtain ⟨gb, gc, rfl⟩ := row_some hG hp
  refine ⟨gb, gc, h1, h2, vB, vi, vd, hB, hR, hG, fun k g hg => ?_⟩
  have hk := hI k _ (by rw [rvU_groups, hg]; rfl)
  obtain ⟨q1, q2⟩ := hk
  rw [rvU_blen] at q1
  refine ⟨q1, ?_⟩
  simpa using q2
theorem RunG.step {S : Tag → Prop} {w w' : World} {T T' : Nat → Tag} {i b bx gb gc : Nat} {m : MQ} {U : Nat → List It} {L : Nat → List Nat} (h : RunG w T i b bx gb gc m U L) (hs : Step S w T w' T') (hS : ∀ t, RT i t → ¬ S t) : RunG w' T' i b bx gb gc m U L := by
  obtain ⟨h1, h2, vB, vi, vd, hB, hR, hG, hI⟩ := h
  have n : ∀ c k, 20 ≤ c → c ≤ 24 → ¬ S ⟨c, i, k, 0⟩ := fun c k a b => hS _ ⟨a, b, rfl⟩
  exact ⟨h1, h2, vB, vi, vd, hB.step hs (n _ _ (by decide) (by decide)), hR.step hs (n _ _ (by decide) (by decide)), hG.step hs (n _ _ (by decide) (by decide)),
    fun k g hk => ⟨(hI k g hk).1.step hs (n _ _ (by decide) (by decide)), (hI k g hk).2.step hs (n _ _ (by decide) (by decide))⟩⟩
theorem RunG.congr {w : World} {T : Nat → Tag} {i b bx gb gc : Nat} {m m' : MQ} {U U' : Nat → List It} {L L' : Nat → List Nat} (h : RunG w T i b bx gb gc m U L) (hc : m'.c = m.c) (hb : m'.bodies = m.bodies) (hf : m'.floor = m.floor) (ht : m'.time = m.time)
    (hg : m'.groups.map (fun g => (g.name, g.start)) = m.groups.map (fun g => (g.name, g.start))) (hU : ∀ k, k < m.groups.length → seenVals (U' k) = seenVals (U k)) (hL : ∀ k, k < m.groups.length → L' k = L k) : RunG w T i b bx gb gc m' U' L' := by
  have e := rvU_congr hc hb hf ht hg hU hL
  have hl : m'.groups.length = m.groups.length := by simpa using congrArg List.length hg
  obtain ⟨h1, h2, vB, vi, vd, hB, hR, hG, hI⟩ := h
  refine ⟨by rw [hb]; exact h1, by rw [hl]; exact h2, vB, vi, vd, by rw [e, hl]; exact hB, by rw [hb]; exact hR, by rw [e, hl]; exact hG, fun k g' hk => ?_⟩
  have hlt : k < m.groups.length := by rw [← hl]; exact (List.getElem?_eq_some_iff.1 hk).1
  have q := hI k _ (List.getElem?_eq_getElem hlt)
  rw [hb, hU k hlt, hL k hlt]
  exact q

theorem Step.frozen {S : Tag → Prop} {w w' : World} {T T' : Nat → Tag} (h : Step S w T w' T') {p : Addr} (hp : p.block < w.heap.size) (hS : ¬ S (T p.block)) : w'.frozen? p = w.frozen? p := by
  unfold World.frozen?
  rw [h.block p.block hp hS]

/-- what is read of a run at one group -/
structure RunAt (w : World) (T : Nat → Tag) (i b bx gb gc : Nat) (m : MQ) (k : Nat) (g : MG) (u : List It) (l : List Nat) (bo : Option Addr) (bc : Nat) (so : Option Addr) (sc : Nat) (lo : Option Addr) (lc : Nat) : Prop where
  lb : b < w.heap.size
  lg : gb < w.heap.size
  tb : T b = .run i
  tg : T gb = .rgrp i
  ne : gb ≠ b
  fb : ∀ j, w.frozen? ⟨b, j, none⟩ = false
  fg : ∀ j, w.frozen? ⟨gb, j, none⟩ = false
  c0 : w.cell? ⟨b, 0, none⟩ = some (.pointer (some ⟨bx, 0, none⟩))
  c1 : w.cell? ⟨b, 1, none⟩ = some (.int .i64 m.c.l)
  c2 : w.cell? ⟨b, 2, none⟩ = some (.int .i64 m.c.d)
  c3 : w.cell? ⟨b, 3, none⟩ = some (.int .i64 m.c.s)
  c4 : w.cell? ⟨b, 4, none⟩ = some (.int .i64 m.c.k)
  c5 : w.cell? ⟨b, 5, none⟩ = some (.slice bo m.bodies.length bc)
  c6 : w.cell? ⟨b, 6, none⟩ = some (.int .i64 m.floor)
  c7 : w.cell? ⟨b, 7, none⟩ = some (.slice (some ⟨gb, 0, none⟩) m.groups.length gc)
  c8 : w.cell? ⟨b, 8, none⟩ = some (.int .i64 m.time)
  c9 : w.cell? ⟨b, 9, none⟩ = some (.bool true)
  c10 : w.cell? ⟨b, 10, none⟩ = some (.bool true)
  c11 : w.cell? ⟨b, 11, none⟩ = some (.bool true)
  d0 : w.cell? ⟨gb, k * 4, none⟩ = some (.string g.name)
  d1 : w.cell? ⟨gb, k * 4 + 1, none⟩ = some (.int .i64 g.start)
  d2 : w.cell? ⟨gb, k * 4 + 2, none⟩ = some (.slice so m.bodies.length sc)
  d3 : w.cell? ⟨gb, k * 4 + 3, none⟩ = some (.slice lo l.length lc)
  bod : Row w T (.rbod i) 9 1 (.slice bo m.bodies.length bc) m.bodies.length (m.bodies.map .string)
  see : Row w T (.rseen i k) 67 4 (.slice so m.bodies.length sc) m.bodies.length (seenVals u)
  last : Row w T (.rlast i k) 3 1 (.slice lo l.length lc) l.length (l.map natV)
  kl : k < m.groups.length
  k6 : m.groups.length ≤ 6
  n4 : m.bodies.length ≤ 400

theorem RunG.at {w : World} {T : Nat → Tag} {i b bx gb gc : Nat} {m : MQ} {U : Nat → List It} {L : Nat → List Nat} {k : Nat} {g : MG} (h : RunG w T i b bx gb gc m U L) (hg : m.groups[k]? = some g) :
    ∃ bo bc so sc lo lc, RunAt w T i b bx gb gc m k g (U k) (L k) bo bc so sc lo lc := by
  obtain ⟨h1, h2, vB, vi, vd, hB, hR, hG, hI⟩ := h
  obtain ⟨bo, bc, rfl⟩ := row_form hR
  obtain ⟨q1, q2⟩ := hI k g hg
  obtain ⟨so, sc, e1⟩ := row_form q1
  obtain ⟨lo, lc, e2⟩ := row_form q2
  rw [e1] at q1
  rw [e2] at q2
  obtain ⟨d0, d1, d2, d3⟩ := groupCells_at (m.rvU U L).groups vi vd k _ (by rw [rvU_groups, hg]; rfl)
  rw [e1] at d2
  rw [e2] at d3
  exact ⟨bo, bc, so, sc, lo, lc, ⟨hB.lt, hG.lt, hB.1, hG.2 gb rfl, fun e => by have h1 := hG.2 gb rfl; rw [e, hB.1] at h1; simp at h1, hB.frozen, hG.frozen, hB.cell rfl, hB.cell rfl, hB.cell rfl, hB.cell rfl, hB.cell rfl, hB.cell rfl, hB.cell rfl, hB.cell rfl, hB.cell rfl, hB.cell rfl, hB.cell rfl, hB.cell rfl,
    hG.cell d0, hG.cell d1, hG.cell d2, hG.cell d3, hR, q1, q2, (List.getElem?_eq_some_iff.1 hg).1, h2, h1⟩⟩

/-- the same where the row of what was seen is known -/
theorem RunG.atS {w : World} {T : Nat → Tag} {i b bx gb gc : Nat} {m : MQ} {U : Nat → List It} {L : Nat → List Nat} {k : Nat} {g : MG} {gi sc : Nat} (h : RunG w T i b bx gb gc m U L) (hg : m.groups[k]? = some g) (d2 : w.cell? ⟨gb, k * 4 + 2, none⟩ = some (.slice (some ⟨gi, 0, none⟩) m.bodies.length sc)) :
    ∃ bo bc lo lc, RunAt w T i b bx gb gc m k g (U k) (L k) bo bc (some ⟨gi, 0, none⟩) sc lo lc := by
  obtain ⟨bo, bc, so, sc', lo, lc, A⟩ := h.at hg
  have e := A.d2
  rw [d2] at e
  cases e
  exact ⟨bo, bc, lo, lc, A⟩
theorem RunAt.step {S : Tag → Prop} {w w' : World} {T T' : Nat → Tag} {i b bx gb gc : Nat} {m : MQ} {k : Nat} {g : MG} {u : List It} {l : List Nat} {bo : Option Addr} {bc : Nat} {so : Option Addr} {sc : Nat} {lo : Option Addr} {lc : Nat}
    (h : RunAt w T i b bx gb gc m k g u l bo bc so sc lo lc) (hs : Step S w T w' T') (hS : ∀ t, RT i t → ¬ S t) : RunAt w' T' i b bx gb gc m k g u l bo bc so sc lo lc := by
  have n : ∀ c k, 20 ≤ c → c ≤ 24 → ¬ S ⟨c, i, k, 0⟩ := fun c k a b => hS _ ⟨a, b, rfl⟩
  have nb : ¬ S (T b) := by rw [h.tb]; exact n _ _ (by decide) (by decide)
  have ng : ¬ S (T gb) := by rw [h.tg]; exact n _ _ (by decide) (by decide)
  have cb : ∀ j, w'.cell? ⟨b, j, none⟩ = w.cell? ⟨b, j, none⟩ := fun j => hs.cell (p := ⟨b, j, none⟩) h.lb nb
  have cg : ∀ j, w'.cell? ⟨gb, j, none⟩ = w.cell? ⟨gb, j, none⟩ := fun j => hs.cell (p := ⟨gb, j, none⟩) h.lg ng
  exact ⟨Nat.lt_of_lt_of_le h.lb hs.size, Nat.lt_of_lt_of_le h.lg hs.size, (hs.tag b h.lb).trans h.tb, (hs.tag gb h.lg).trans h.tg, h.ne, fun j => (hs.frozen (p := ⟨b, j, none⟩) h.lb nb).trans (h.fb j), fun j => (hs.frozen (p := ⟨gb, j, none⟩) h.lg ng).trans (h.fg j),
    (cb 0).trans h.c0, (cb 1).trans h.c1, (cb 2).trans h.c2, (cb 3).trans h.c3, (cb 4).trans h.c4, (cb 5).trans h.c5, (cb 6).trans h.c6, (cb 7).trans h.c7, (cb 8).trans h.c8, (cb 9).trans h.c9, (cb 10).trans h.c10, (cb 11).trans h.c11,
    (cg _).trans h.d0, (cg _).trans h.d1, (cg _).trans h.d2, (cg _).trans h.d3, h.bod.step hs (n _ _ (by decide) (by decide)), h.see.step hs (n _ _ (by decide) (by decide)), h.last.step hs (n _ _ (by decide) (by decide)), h.kl, h.k6, h.n4⟩

theorem RunG.len {w : World} {T : Nat → Tag} {i b bx gb gc : Nat} {m : MQ} {U : Nat → List It} {L : Nat → List Nat} (h : RunG w T i b bx gb gc m U L) : w.cell? ⟨b, 7, none⟩ = some (.slice (some ⟨gb, 0, none⟩) m.groups.length gc) ∧ b < w.heap.size := by
  obtain ⟨h1, h2, vB, vi, vd, hB, hR, hG, hI⟩ := h
  exact ⟨hB.cell rfl, hB.lt⟩

theorem rt_rgrp (i : Nat) {t : Tag} (h : t = .rgrp i) : RT i t := by subst h; exact ⟨by simp, by simp, rfl⟩
theorem rt_rseen (i k : Nat) {t : Tag} (h : t = .rseen i k) : RT i t := by subst h; exact ⟨by simp, by simp, rfl⟩
theorem rt_rlast (i k : Nat) {t : Tag} (h : t = .rlast i k) : RT i t := by subst h; exact ⟨by simp, by simp, rfl⟩
theorem rt_itself (i : Nat) {t : Tag} (h : t = .run i) : RT i t := by subst h; exact ⟨by simp, by simp, rfl⟩
theorem xt_of_rt {i j : Nat} : ∀ t, XT j t → ¬ RT i t := fun _ a b => xt_rt b a

/-- one of the run's own flags is written true -/
theorem RunG.flag {w : World} {T : Nat → Tag} {i b bx gb gc : Nat} {m : MQ} {U : Nat → List It} {L : Nat → List Nat} (h : RunG w T i b bx gb gc m U L) (j : Nat) (hj : j = 9 ∨ j = 10 ∨ j = 11) :
    RunG (w.setCell ⟨b, j, none⟩ (.bool true)) T i b bx gb gc m U L ∧ Step (fun t => t = .run i) w T (w.setCell ⟨b, j, none⟩ (.bool true)) T := by
  obtain ⟨h1, h2, vB, vi, vd, hB, hR, hG, hI⟩ := h
  have hs : Step (fun t => t = .run i) w T (w.setCell ⟨b, j, none⟩ (.bool true)) T := step_setCell _ _ _ _ _ hB.1
  have hB' := hB.set j (.bool true)
  have e : (runCells bx (m.rvU U L) vB (.slice (some ⟨gb, 0, none⟩) m.groups.length gc)).setIfInBounds j (.bool true) = runCells bx (m.rvU U L) vB (.slice (some ⟨gb, 0, none⟩) m.groups.length gc) := by
    rcases hj with rfl | rfl | rfl <;> rfl
  rw [e] at hB'
  exact ⟨⟨h1, h2, vB, vi, vd, hB', hR.step hs (by simp), hG.step hs (by simp), fun k g hk => ⟨(hI k g hk).1.step hs (by simp), (hI k g hk).2.step hs (by simp)⟩⟩, hs⟩

/-- a cell of what was seen is written -/
theorem RunG.seen {w : World} {T : Nat → Tag} {i b bx gb gc : Nat} {m : MQ} {U : Nat → List It} {L : Nat → List Nat} {k : Nat} {g : MG} {gi sc j : Nat} {v : Value} {u' : List It} (h : RunG w T i b bx gb gc m U L) (hg : m.groups[k]? = some g)
    (d2 : w.cell? ⟨gb, k * 4 + 2, none⟩ = some (.slice (some ⟨gi, 0, none⟩) m.bodies.length sc)) (hj : j < m.bodies.length * 4) (hv : (seenVals (U k)).set j v = seenVals u') :
    RunG (w.setCell ⟨gi, j, none⟩ v) T i b bx gb gc m (updF U k u') L ∧ Step (fun t => t = .rseen i k) w T (w.setCell ⟨gi, j, none⟩ v) T := by
  obtain ⟨h1, h2, vB, vi, vd, hB, hR, hG, hI⟩ := h
  obtain ⟨q1, q2⟩ := hI k g hg
  have d2' := hG.cell (groupCells_at (m.rvU U L).groups vi vd k _ (by rw [rvU_groups, hg]; rfl)).2.2.1
  rw [d2] at d2'
  have e1 : vi k = .slice (some ⟨gi, 0, none⟩) m.bodies.length sc := (Option.some.inj d2').symm
  rw [e1] at q1
  have hl : (seenVals (U k)).length = m.bodies.length * 4 := q1.1.1
  have hs : Step (fun t => t = .rseen i k) w T (w.setCell ⟨gi, j, none⟩ v) T := step_setCell _ _ _ _ _ (q1.2 gi rfl)
  have hset := q1.set (j := j) (by omega) v
  rw [hv] at hset
  refine ⟨⟨h1, h2, vB, vi, vd, hB.step hs (by simp), hR.step hs (by simp), ?_, fun j' g' hj' => ?_⟩, hs⟩
  · rw [groupCells_congr (m.rvU U L).groups _ vi vd vi vd (rvU_nameStart m m U _ L L rfl) (fun _ _ => rfl) (fun _ _ => rfl)]
    exact hG.step hs (by simp)
  · by_cases hjk : j' = k
    · subst hjk
      rw [updF_same, e1]
      exact ⟨hset, q2.step hs (by simp)⟩
    · rw [updF_other _ _ _ hjk]
      exact ⟨(hI j' g' hj').1.step hs (by simp [hjk]), (hI j' g' hj').2.step hs (by simp)⟩

/-- the list of what was delivered is longer -/
theorem RunG.add {w w3 : World} {T T3 : Nat → Tag} {i b bx gb gc : Nat} {m : MQ} {U : Nat → List It} {L : Nat → List Nat} {k : Nat} {g : MG} {v : Value} {l' : List Nat} (h : RunG w T i b bx gb gc m U L) (hg : m.groups[k]? = some g)
    (hs : Step (fun t => t = .rlast i k) w T w3 T3) (hr : Row w3 T3 (.rlast i k) 3 1 v l'.length (l'.map natV)) :
    RunG (w3.setCell ⟨gb, k * 4 + 3, none⟩ v) T3 i b bx gb gc m U (updF L k l') ∧ Step (RT i) w T (w3.setCell ⟨gb, k * 4 + 3, none⟩ v) T3 := by
  obtain ⟨h1, h2, vB, vi, vd, hB, hR, hG, hI⟩ := h
  have hkl : k < (m.rvU U L).groups.length := by rw [rvU_len]; exact (List.getElem?_eq_some_iff.1 hg).1
  have hG3 := hG.step hs (by simp)
  have hs4 : Step (fun t => t = .rgrp i) w3 T3 (w3.setCell ⟨gb, k * 4 + 3, none⟩ v) T3 := step_setCell _ _ _ _ _ (hG3.2 gb rfl)
  have hset := hG3.set (j := k * 4 + 3) (by rw [groupCells_length]; omega) v
  rw [groupCells_deads _ _ _ _ _ hkl] at hset
  refine ⟨⟨h1, h2, vB, vi, fun j => if j = k then v else vd j, (hB.step hs (by simp)).step hs4 (by simp), (hR.step hs (by simp)).step hs4 (by simp), ?_, fun j' g' hj' => ?_⟩, (hs.mono (fun _ h => rt_rlast i k h)).trans (hs4.mono (fun _ h => rt_rgrp i h))⟩
  · rw [groupCells_congr (m.rvU U L).groups _ vi _ vi (fun j => if j = k then v else vd j) (rvU_nameStart m m U U L _ rfl) (fun _ _ => rfl) (fun _ _ => rfl)]
    exact hset
  · by_cases hjk : j' = k
    · subst hjk
      rw [updF_same]
      simp only [if_true]
      exact ⟨((hI j' g' hj').1.step hs (by simp)).step hs4 (by simp), hr.step hs4 (by simp)⟩
    · rw [updF_other _ _ _ hjk]
      simp only [if_neg hjk]
      exact ⟨((hI j' g' hj').1.step hs (by simp)).step hs4 (by simp), ((hI j' g' hj').2.step hs (by simp [hjk])).step hs4 (by simp)⟩

end Go.Proofs.YtockkceclkcgbaaGreatDoor

/- The contract of has: is a number in ranges? -/
namespace Go.Proofs.YtockkceclkcgbaaGreatDoor
open Go.RowKit

/-- is a number in one of the ranges from the j-th on? -/
def hasFrom (l : List (Int × Int)) (n : Int) (j : Nat) : Bool := (l.drop j).any (fun r => decide (r.1 ≤ n) && decide (n ≤ r.2))
theorem hasFrom_end {l : List (Int × Int)} {n : Int} {j : Nat} (h : l.length ≤ j) : hasFrom l n j = false := by simp [hasFrom, List.drop_eq_nil_of_le h]
theorem hasFrom_at {l : List (Int × Int)} {n : Int} {j : Nat} {r : Int × Int} (h : l[j]? = some r) : hasFrom l n j = ((decide (r.1 ≤ n) && decide (n ≤ r.2)) || hasFrom l n (j + 1)) := by
  obtain ⟨h1, h2⟩ := List.getElem?_eq_some_iff.1 h
  unfold hasFrom
  rw [List.drop_eq_getElem_cons h1, h2]
  simp
theorem hasFrom_in (l : List (Int × Int)) (n : Int) : hasFrom l n 0 = true ↔ inL l n := by
  simp [hasFrom, inL]

set_option maxRecDepth 100000 in
set_option maxHeartbeats 1000000 in
theorem khas_any (l : List (Int × Int)) (n : Int) (ao : Option Addr) (cap : Nat) (t : Tag) (w : World) (T : Nat → Tag) (hr : Row w T t 69 2 (.slice ao l.length cap) l.length (pairVals l)) (hl : l.length ≤ 400) :
    Calls Tryz.prog 89 #[.slice ao l.length cap, .int .i64 n] w fun e w' => e = .returned (.bool (hasFrom l n 0)) ∧ w' = w := by
  go_enter Tryz.func89, Tryz.ntmps89
  go_wp2
  go_loopw [5] (fun x wr => ∃ k : Nat, k ≤ l.length ∧ x = .int .i64 k ∧ wr = w ∧ Hid (hasFrom l n 0 = hasFrom l n k)) (fun x _ => l.length - (intOf x).toNat)
  case atStart => exact ⟨0, Nat.zero_le _, rfl, rfl, hide rfl⟩
  case round =>
    obtain ⟨k, hk, rfl, rfl, hh⟩ := hrel
    by_cases hlt : k < l.length
    · obtain ⟨r, hrk⟩ : ∃ r, l[k]? = some r := ⟨_, List.getElem?_eq_getElem hlt⟩
      obtain ⟨g, _, e⟩ := row_some hr (by omega)
      cases e
      have t0 := hr.cell (pairVals_at l k r hrk).1
      have t1 := hr.cell (pairVals_at l k r hrk).2
      have hat := hide (hasFrom_at (n := n) hrk)
      by_cases h1 : r.1 ≤ n
      · by_cases h2 : n ≤ r.2
        · go_wp2
          go_ret
          exact ⟨by rw [hh.out, hat.out]; simp [h1, h2], rfl⟩
        · go_wp2
          exact ⟨⟨k + 1, by omega, by simp, by trivial, hide (by rw [hh.out, hat.out]; simp [h2])⟩, by simp [intOf]; omega⟩
      · go_wp2
        exact ⟨⟨k + 1, by omega, by simp, by trivial, hide (by rw [hh.out, hat.out]; simp [h1])⟩, by simp [intOf]; omega⟩
    · go_wp2
      go_ret
      exact ⟨by rw [hh.out, hasFrom_end (by omega)]; rfl, rfl⟩

end Go.Proofs.YtockkceclkcgbaaGreatDoor

/- The mathematics of look: what a queue tells of its groups, and what was seen of them. -/
namespace Go.Proofs.YtockkceclkcgbaaGreatDoor
open Go.RowKit

theorem idx_first {s : ByteArray} : ∀ {l : List ByteArray} {k : Nat}, l[k]? = some s → (∀ j x, j < k → l[j]? = some x → x ≠ s) → idx s l = some k
  | [], k, h, _ => by simp at h
  | x :: r, 0, h, _ => by
    simp at h
    simp [idx, h]
  | x :: r, k + 1, h, hn => by
    have hx : ¬ x = s := hn 0 x (by omega) rfl
    have ih := idx_first (s := s) (l := r) (k := k) (by simpa using h) (fun j y hj hy => hn (j + 1) y (by omega) (by simpa using hy))
    simp [idx, hx, ih]

theorem nameB_inj {i j : Nat} (hi : i < 6) (hj : j < 6) (h : nameB i = nameB j) : i = j := by
  have e : (nameB i).data = (nameB j).data := by rw [h]
  simp [nameB] at e
  have e2 := congrArg UInt8.toNat e
  simp at e2
  omega

/-- groups bear the names of their numbers -/
def Named (m : MQ) : Prop := ∀ k g, m.groups[k]? = some g → g.name = nameB k
theorem at_name {m : MQ} (hn : Named m) (h6 : m.groups.length ≤ 6) {k : Nat} {g : MG} (hg : m.groups[k]? = some g) : m.at (nameB k) = some k := by
  have hk := (List.getElem?_eq_some_iff.1 hg).1
  refine idx_first (by simp [MQ.names, hg, hn k g hg]) (fun j x hj hx => ?_)
  simp only [MQ.names, List.getElem?_map, Option.map_eq_some_iff] at hx
  obtain ⟨g', hg', rfl⟩ := hx
  rw [hn j g' hg']
  exact fun e => by have := nameB_inj (by omega) (by omega) e; omega

theorem done_has {l : List It} (h0 : ∀ (n : Nat) x, l[n]? = some x → 0 ≤ x.done) (hl : l.length ≤ 400) {n : Nat} {x : It} (hx : l[n]? = some x) : hasFrom (doneTo l l.length) n 0 = decide (0 < x.done) := by
  obtain ⟨_, _, _, i4⟩ := doneTo_inv l (fun x hx => by obtain ⟨n, hn⟩ := List.getElem?_of_mem hx; exact h0 n x hn) (by omega) l.length (Nat.le_refl _)
  have hn := (List.getElem?_eq_some_iff.1 hx).1
  have hd : doneB l (n : Int) = decide (0 < x.done) := by simp [doneB, itemAt_nat, hx]
  have := i4 n
  rw [← hasFrom_in, hd] at this
  by_cases h : 0 < x.done
  · simp only [h, decide_true, and_true] at this ⊢
    exact this.2 (by omega)
  · simp only [h, decide_false, Bool.false_eq_true, and_false, iff_false, Bool.not_eq_true] at this ⊢
    exact this

/-- the first n as they are, the others as they were seen -/
def mixI (l u : List It) (n : Nat) : List It := l.take n ++ u.drop n
theorem mixI_zero (l u : List It) : mixI l u 0 = u := by simp [mixI]
theorem mixI_all (l u : List It) (h : u.length = l.length) : mixI l u l.length = l := by simp [mixI, List.drop_eq_nil_of_le (Nat.le_of_eq h)]
theorem mixI_len (l u : List It) (n : Nat) (h : u.length = l.length) (hn : n ≤ l.length) : (mixI l u n).length = l.length := by simp [mixI]; omega
theorem mixI_at (l u : List It) (n : Nat) (hn : n ≤ l.length) (h : u.length = l.length) (j : Nat) : (mixI l u n)[j]? = if j < n then l[j]? else u[j]? := by
  unfold mixI
  by_cases hj : j < n
  · rw [List.getElem?_append_left (by simp; omega), if_pos hj]
    simp [hj]
  · rw [List.getElem?_append_right (by simp; omega), if_neg hj]
    simp only [List.length_take, List.getElem?_drop]
    congr 1
    omega
theorem mixI_succ (l u : List It) (n : Nat) (x : It) (h : u.length = l.length) (hx : l[n]? = some x) : mixI l u (n + 1) = (mixI l u n).set n x := by
  have hn := (List.getElem?_eq_some_iff.1 hx).1
  apply List.ext_getElem?
  intro j
  rw [mixI_at l u (n + 1) (by omega) h, List.getElem?_set, mixI_at l u n (by omega) h, mixI_len l u n h (by omega)]
  by_cases hj : n = j
  · subst hj
    rw [if_pos (by omega), if_pos rfl, if_pos hn, hx]
  · by_cases hj2 : j < n
    · rw [if_pos (by omega), if_neg hj, if_pos hj2]
    · rw [if_neg (by omega), if_neg hj, if_neg hj2]
theorem mixI_same (l u : List It) (n : Nat) (x : It) (h : u.length = l.length) (hx : l[n]? = some x) (hu : u[n]? = some x) : mixI l u (n + 1) = mixI l u n := by
  have hn := (List.getElem?_eq_some_iff.1 hx).1
  rw [mixI_succ l u n x h hx]
  apply List.ext_getElem?
  intro j
  rw [List.getElem?_set, mixI_len l u n h (by omega)]
  by_cases hj : n = j
  · subst hj
    rw [mixI_at l u n (by omega) h]
    simp [hu, hn]
  · rw [if_neg hj]

/-- the first k groups as they are, the others as they were seen -/
def mixU (m : MQ) (U : Nat → List It) (k : Nat) : Nat → List It := fun j => if j < k then itemsOf m j else U j
theorem mixU_self (m : MQ) (U : Nat → List It) (k : Nat) : mixU m U k k = U k := by simp [mixU]
theorem mixU_succ (m : MQ) (U : Nat → List It) (k : Nat) : updF (mixU m U k) k (itemsOf m k) = mixU m U (k + 1) := by
  funext j
  by_cases h : j = k
  · subst h; simp [updF, mixU]
  · by_cases h2 : j < k
    · simp [updF, mixU, h, h2, Nat.lt_succ_of_lt h2]
    · have : ¬ j < k + 1 := by omega
      simp [updF, mixU, h, h2, this]

/-- is one of the first j deliveries this one? -/
def diedTo (l : List Dl) (x : Dl) (j : Nat) : Bool := (l.take j).any (fun d => decide (d.off = x.off) && decide (d.tr = x.tr) && decide (d.body = x.body))
theorem diedTo_succ {l : List Dl} {x d : Dl} {j : Nat} (h : l[j]? = some d) : diedTo l x (j + 1) = (diedTo l x j || (decide (d.off = x.off) && decide (d.tr = x.tr) && decide (d.body = x.body))) := by
  obtain ⟨h1, h2⟩ := List.getElem?_eq_some_iff.1 h
  unfold diedTo
  rw [List.take_add_one, List.any_append, h]
  simp
theorem diedTo_all {l : List Dl} {x : Dl} (h : x ∈ l) : diedTo l x l.length = true := by
  unfold diedTo
  rw [List.take_length, List.any_eq_true]
  exact ⟨x, h, by simp⟩

end Go.Proofs.YtockkceclkcgbaaGreatDoor

/- Contracts of the document's leased, Ack, Nack, Extend and Tick. -/
import Derived.Test.YtockkceclkcgbaaGreatDoorB03
import Derived.BigRegion
namespace Go.Proofs.YtockkceclkcgbaaGreatDoor
open Go.RowKit

/-- is the offset none of a kept message from the group's start on? -/
def outside (m : MQ) (g : MG) (off : Int) : Bool := decide (off < m.floor) || decide (off < g.start) || decide ((m.bodies.length : Int) ≤ off)
/-- is the message not leased by that try? -/
def notLeased (m : MQ) (x : It) (tr : Int) : Bool := decide (0 < x.done) || decide (x.till ≤ m.time) || decide (x.tries ≠ tr)
/-- what leased finds: an error, or the group's place, the message's place, the item -/
def leasedE (m : MQ) (s : ByteArray) (off tr : Int) : Int :=
  match m.at s with
  | none => 10
  | some k => match m.groups[k]? with
    | none => 10
    | some g => bif outside m g off then 9 else match g.items[off.toNat]? with
      | none => 9
      | some x => bif notLeased m x tr then 12 else 0
def leasedK (m : MQ) (s : ByteArray) (off tr : Int) : Int := bif decide (leasedE m s off tr = 0) then (match m.at s with | some k => (k : Int) | none => 0) else 0

attribute [local go_sem] over_cell

set_option maxRecDepth 100000 in
set_option maxHeartbeats 2000000 in
theorem yleased_any (i b : Nat) (m : MQ) (s : ByteArray) (off tr : Int) (w : World) (T : Nat → Tag) (hy : YQ w T i b m.rq) (hok : m.Ok) :
    Calls Tryz.prog 141 #[.pointer (some ⟨b, 0, none⟩), .string s, .int .i64 off, .int .i64 tr] w fun e w' => e = .returned (.tuple #[.int .i64 (leasedK m s off tr), .int .i64 (leasedE m s off tr)]) ∧ Below w.heap.size w w' := by
  go_enter Tryz.func141, Tryz.ntmps141
  go_wp2_with fail
  refine (yat_any i b m.rq s w T hy).mono ?_
  rintro e w1 ⟨rfl, rfl⟩
  cases ha : m.at s with
  | none =>
    rw [place_none ha]
    go_wp2
    go_ret2
    exact ⟨by simp [leasedK, leasedE, ha], Below.refl _ _⟩
  | some k =>
    rw [place_some ha]
    obtain ⟨g, hg, hgn⟩ := at_group ha
    have hkl : k < m.groups.length := (List.getElem?_eq_some_iff.1 hg).1
    obtain ⟨hsm, hfew, hfl, vB, vG, vi, vd, hB, hR, hG, hI⟩ := hy
    have hgl : m.rq.groups.length = m.groups.length := by simp [MQ.rq]
    have hbl : m.rq.bodies.length = m.bodies.length := by simp [MQ.rq]
    rw [hgl] at hG
    rw [hbl] at hR hsm hfl hI
    obtain ⟨gb, gc, rfl⟩ := row_some hG (by omega)
    obtain ⟨bo, bc, rfl⟩ := row_form hR
    have hk6 : m.groups.length ≤ 6 := by omega
    have lb := hB.lt
    have lg := hG.lt
    have c4 := hB.cell (j := 4) rfl
    have c5 := hB.cell (j := 5) rfl
    have c6 := hB.cell (j := 6) rfl
    have c7 := hB.cell (j := 7) rfl
    simp only [List.getElem_toArray, List.getElem_cons_succ, List.getElem_cons_zero] at c4 c5 c6 c7
    obtain ⟨d0, d1, d2, d3⟩ := groupCells_at m.rq.groups vi vd k g.rg (rq_group hg)
    replace d0 := hG.cell d0
    replace d1 := hG.cell d1
    replace d2 := hG.cell d2
    replace d3 := hG.cell d3
    have hgi := (hI k g.rg (rq_group hg)).1
    obtain ⟨io, ic, hvi⟩ := row_form hgi
    obtain ⟨dO, dc, hvd⟩ := row_form (hI k g.rg (rq_group hg)).2
    rw [hvi] at d2 hgi
    rw [hvd] at d3
    have hlen : g.items.length = m.bodies.length := hok.len g (List.mem_of_getElem? hg)
    have e0 : g.rg.name = g.name := rfl
    have e1 : g.rg.start = g.start := rfl
    have e2 : m.rq.floor = m.floor := rfl
    have e3 : m.rq.time = m.time := rfl
    rw [e0] at d0
    rw [e1] at d1
    rw [e2] at c5
    rw [e3] at c7
    have hfl' : 0 ≤ m.floor ∧ m.floor ≤ m.bodies.length := hfl
    clear hB hR hG e0 e1 e2 e3 hgl hbl hgn hfl
    by_cases h1 : off < m.floor
    · go_wp2
      go_ret2
      exact ⟨by simp [leasedK, leasedE, ha, hg, outside, h1], (Below.refl _ _).alloc (Nat.le_refl _) _⟩
    by_cases h2 : off < g.start
    · go_wp2
      go_ret2
      exact ⟨by simp [leasedK, leasedE, ha, hg, outside, h2], (Below.refl _ _).alloc (Nat.le_refl _) _⟩
    by_cases h3 : (m.bodies.length : Int) ≤ off
    · go_wp2
      go_ret2
      exact ⟨by simp [leasedK, leasedE, ha, hg, outside, h3], (Below.refl _ _).alloc (Nat.le_refl _) _⟩
    obtain ⟨n, rfl⟩ : ∃ n : Nat, off = n := ⟨off.toNat, by omega⟩
    have hn : n < m.bodies.length := by omega
    obtain ⟨x, hx⟩ : ∃ x, g.items[n]? = some x := ⟨_, List.getElem?_eq_getElem (by omega)⟩
    obtain ⟨gi, ic', e⟩ := row_some hgi (by omega)
    cases e
    have li := hgi.lt
    obtain ⟨t0, t1, t2, t3⟩ := itVals_at g.items n x hx
    replace t0 := hgi.cell t0
    replace t1 := hgi.cell t1
    replace t2 := hgi.cell t2
    replace t3 := hgi.cell t3
    clear hgi hI hvi hvd
    have hfin : ∀ {w5 : World}, Below ((w1.alloc (.cells #[.string g.name, .int .i64 g.start, .slice (some ⟨gi, 0, none⟩) m.bodies.length ic, .slice dO g.rg.dead.length dc] 109)).alloc (.cells #[.int .i64 x.tries, .int .i64 x.done, .int .i64 x.till, .int .i64 x.after] 111)).heap.size ((w1.alloc (.cells #[.string g.name, .int .i64 g.start, .slice (some ⟨gi, 0, none⟩) m.bodies.length ic, .slice dO g.rg.dead.length dc] 109)).alloc (.cells #[.int .i64 x.tries, .int .i64 x.done, .int .i64 x.till, .int .i64 x.after] 111)) w5 → Below w1.heap.size w1 w5 := fun h =>
      (((Below.refl _ _).alloc (Nat.le_refl _) _).alloc (by simp) _).trans (h.mono (by simp; omega))
    have m1 : w1.heap.size + 1 < ((w1.alloc (.cells #[.string g.name, .int .i64 g.start, .slice (some ⟨gi, 0, none⟩) m.bodies.length ic, .slice dO g.rg.dead.length dc] 109)).alloc (.cells #[.int .i64 x.tries, .int .i64 x.done, .int .i64 x.till, .int .i64 x.after] 111)).heap.size := by simp
    have m2 : b < ((w1.alloc (.cells #[.string g.name, .int .i64 g.start, .slice (some ⟨gi, 0, none⟩) m.bodies.length ic, .slice dO g.rg.dead.length dc] 109)).alloc (.cells #[.int .i64 x.tries, .int .i64 x.done, .int .i64 x.till, .int .i64 x.after] 111)).heap.size := by simp; omega
    have m3 : b < w1.heap.size + 1 + 1 := by omega
    have m4 : b < w1.heap.size + 1 := by omega
    by_cases q1 : 0 < x.done
    · have eE : Hid (leasedE m s (n : Int) tr = 12) := hide (by simp [leasedE, ha, hg, outside, notLeased, h1, h2, h3, hx, q1])
      go_wp2_with fail
      refine wp_region_over (by kernel_rfl) (by kernel_rfl) ?_
      repeat (go_big_quiet_step (fail))
      refine wpQuiet_nil ?_
      rintro _ ⟨x5, rfl⟩
      have hb5 := over_below ((w1.alloc (.cells #[.string g.name, .int .i64 g.start, .slice (some ⟨gi, 0, none⟩) m.bodies.length ic, .slice dO g.rg.dead.length dc] 109)).alloc (.cells #[.int .i64 x.tries, .int .i64 x.done, .int .i64 x.till, .int .i64 x.after] 111)) x5
      generalize over ((w1.alloc (.cells #[.string g.name, .int .i64 g.start, .slice (some ⟨gi, 0, none⟩) m.bodies.length ic, .slice dO g.rg.dead.length dc] 109)).alloc (.cells #[.int .i64 x.tries, .int .i64 x.done, .int .i64 x.till, .int .i64 x.after] 111)) x5 = w5 at *
      go_wp2
      go_ret2
      exact ⟨by simp [leasedK, eE.out, ha], hfin hb5⟩
    have q1' : decide (0 < x.done) = false := by simp; omega
    by_cases q2 : x.till ≤ m.time
    · have eE : Hid (leasedE m s (n : Int) tr = 12) := hide (by simp [leasedE, ha, hg, outside, notLeased, h1, h2, h3, hx, q1, q2])
      go_wp2_with fail
      refine wp_region_over (by kernel_rfl) (by kernel_rfl) ?_
      repeat (go_big_quiet_step (fail))
      refine wpQuiet_nil ?_
      rintro _ ⟨x5, rfl⟩
      have hb5 := over_below ((w1.alloc (.cells #[.string g.name, .int .i64 g.start, .slice (some ⟨gi, 0, none⟩) m.bodies.length ic, .slice dO g.rg.dead.length dc] 109)).alloc (.cells #[.int .i64 x.tries, .int .i64 x.done, .int .i64 x.till, .int .i64 x.after] 111)) x5
      generalize over ((w1.alloc (.cells #[.string g.name, .int .i64 g.start, .slice (some ⟨gi, 0, none⟩) m.bodies.length ic, .slice dO g.rg.dead.length dc] 109)).alloc (.cells #[.int .i64 x.tries, .int .i64 x.done, .int .i64 x.till, .int .i64 x.after] 111)) x5 = w5 at *
      go_wp2
      go_ret2
      exact ⟨by simp [leasedK, eE.out, ha], hfin hb5⟩
    have q2' : decide (x.till ≤ m.time) = false := by simp; omega
    by_cases q3 : x.tries = tr
    · subst q3
      have eE : Hid (leasedE m s (n : Int) x.tries = 0) := hide (by simp [leasedE, ha, hg, outside, notLeased, h1, h2, h3, hx, q1, q2])
      go_wp2_with fail
      refine wp_region_over (by kernel_rfl) (by kernel_rfl) ?_
      repeat (go_big_quiet_step (fail))
      refine wpQuiet_nil ?_
      rintro _ ⟨x5, rfl⟩
      have hb5 := over_below ((w1.alloc (.cells #[.string g.name, .int .i64 g.start, .slice (some ⟨gi, 0, none⟩) m.bodies.length ic, .slice dO g.rg.dead.length dc] 109)).alloc (.cells #[.int .i64 x.tries, .int .i64 x.done, .int .i64 x.till, .int .i64 x.after] 111)) x5
      generalize over ((w1.alloc (.cells #[.string g.name, .int .i64 g.start, .slice (some ⟨gi, 0, none⟩) m.bodies.length ic, .slice dO g.rg.dead.length dc] 109)).alloc (.cells #[.int .i64 x.tries, .int .i64 x.done, .int .i64 x.till, .int .i64 x.after] 111)) x5 = w5 at *
      go_wp2
      go_ret2
      exact ⟨by simp [leasedK, eE.out, ha], hfin hb5⟩
    · have eE : Hid (leasedE m s (n : Int) tr = 12) := hide (by simp [leasedE, ha, hg, outside, notLeased, h1, h2, h3, hx, q1, q2, q3])
      go_wp2_with fail
      refine wp_region_over (by kernel_rfl) (by kernel_rfl) ?_
      repeat (go_big_quiet_step (fail))
      refine wpQuiet_nil ?_
      rintro _ ⟨x5, rfl⟩
      have hb5 := over_below ((w1.alloc (.cells #[.string g.name, .int .i64 g.start, .slice (some ⟨gi, 0, none⟩) m.bodies.length ic, .slice dO g.rg.dead.length dc] 109)).alloc (.cells #[.int .i64 x.tries, .int .i64 x.done, .int .i64 x.till, .int .i64 x.after] 111)) x5
      generalize over ((w1.alloc (.cells #[.string g.name, .int .i64 g.start, .slice (some ⟨gi, 0, none⟩) m.bodies.length ic, .slice dO g.rg.dead.length dc] 109)).alloc (.cells #[.int .i64 x.tries, .int .i64 x.done, .int .i64 x.till, .int .i64 x.after] 111)) x5 = w5 at *
      go_wp2
      go_ret2
      exact ⟨by simp [leasedK, eE.out, ha], hfin hb5⟩

end Go.Proofs.YtockkceclkcgbaaGreatDoor

/- Contracts of the document's Ack, Nack, Extend and Tick. -/
namespace Go.Proofs.YtockkceclkcgbaaGreatDoor
open Go.RowKit

/-- the item that leased found -/
theorem leased_found {m : MQ} {s : ByteArray} {off tr : Int} (hok : m.Ok) (h : leasedE m s off tr = 0) : ∃ (k n : Nat) (g : MG) (x : It), m.at s = some k ∧ m.groups[k]? = some g ∧ off = (n : Int) ∧ g.items[n]? = some x ∧ n < m.bodies.length ∧ leasedK m s off tr = k := by
  have h0 := h
  unfold leasedE at h
  cases ha : m.at s with
  | none => rw [ha] at h; simp at h
  | some k =>
    rw [ha] at h
    simp only at h
    cases hg : m.groups[k]? with
    | none => rw [hg] at h; simp at h
    | some g =>
      rw [hg] at h
      simp only at h
      cases ho : outside m g off with
      | true => rw [ho] at h; simp at h
      | false =>
        rw [ho] at h
        simp only [cond_false] at h
        cases hx : g.items[off.toNat]? with
        | none => rw [hx] at h; simp at h
        | some x =>
          refine ⟨k, off.toNat, g, x, rfl, hg, ?_, hx, ?_, ?_⟩
          · simp [outside] at ho
            have := hok.fl
            omega
          · have h1 := (List.getElem?_eq_some_iff.1 hx).1
            rw [hok.len g (List.mem_of_getElem? hg)] at h1
            exact h1
          · simp [leasedK, h0, ha]

def findI (m : MQ) (k n : Nat) : It := match m.groups[k]? with
  | none => ⟨0, 0, 0, 0⟩
  | some g => g.items.getD n ⟨0, 0, 0, 0⟩
theorem findI_eq {m : MQ} {k n : Nat} {g : MG} {x : It} (hg : m.groups[k]? = some g) (hx : g.items[n]? = some x) : findI m k n = x := by simp [findI, hg, List.getD, hx]

/-- what a call that speaks of a leased message makes of it -/
def onLeased (m : MQ) (s : ByteArray) (off : Int) (e : Int) (f : It → It) : MQ := match m.at s with
  | none => m
  | some k => bif decide (e = 0) then m.setI k off.toNat (f (findI m k off.toNat)) else m
theorem onLeased_err {m : MQ} {s : ByteArray} {off e : Int} {f : It → It} (h : e ≠ 0) : onLeased m s off e f = m := by
  unfold onLeased
  cases m.at s <;> simp [h]
theorem onLeased_ok {m : MQ} {s : ByteArray} {k n : Nat} {g : MG} {x : It} {f : It → It} (ha : m.at s = some k) (hg : m.groups[k]? = some g) (hx : g.items[n]? = some x) : onLeased m s n 0 f = m.setI k n (f x) := by
  unfold onLeased
  simp [ha, findI_eq hg hx]

def ackM (m : MQ) (s : ByteArray) (off tr : Int) : MQ :=
  bif decide (leasedE m s off tr = 0) then { onLeased m s off 0 (fun x => { x with done := 1 }) with changes := wrap64 (m.changes + 1) } else m

set_option maxRecDepth 100000 in
set_option maxHeartbeats 2000000 in
theorem yack_any (i b : Nat) (m : MQ) (s : ByteArray) (off tr : Int) (w : World) (T : Nat → Tag) (hy : YQ w T i b m.rq) (hok : m.Ok) :
    Calls Tryz.prog 112 #[.pointer (some ⟨b, 0, none⟩), .string s, .int .i64 off, .int .i64 tr] w fun e w' => e = .returned (.int .i64 (leasedE m s off tr)) ∧ ∃ T', Step (fun t => ∃ r j, t = .y i r j) w T w' T' ∧ YQ w' T' i b (ackM m s off tr).rq := by
  go_enter Tryz.func112, Tryz.ntmps112
  go_wp2_with fail
  refine (yleased_any i b m s off tr w T hy hok).mono ?_
  rintro e w1 ⟨rfl, hb1⟩
  have f1 : Step (fun t => ∃ r j, t = .y i r j) w T w1 T := step_below _ T hb1
  replace hy := hy.step (step_below (fun _ => False) T hb1) (fun _ _ h => h)
  clear hb1
  by_cases he : leasedE m s off tr = 0
  · obtain ⟨k, n, g, x, ha, hg, rfl, hx, hn, hK⟩ := leased_found hok he
    have hM : Hid (ackM m s n tr = { m.setI k n { x with done := 1 } with changes := wrap64 (m.changes + 1) }) := hide (by simp [ackM, he, onLeased_ok ha hg hx])
    have he' : Hid (leasedE m s n tr = 0) := hide he
    rw [he, hK]
    clear he hK
    obtain ⟨gb, gc, gi, ic, c6, d2, ⟨t0, t1, t2, t3⟩, hfz, hfb, ne1, ne2, ne3, l1, l2, l3, c7, c8, hkl, h6, hnl, h400, hset⟩ := hy.item hok hg hx
    have z1 := hfz (n * 4 + 1)
    have z8 := hfb 8
    go_wp2
    go_ret
    obtain ⟨hy2, hs2⟩ := hset 1 (.int .i64 1) { x with done := 1 } (by decide) ((itVals_set g.items n x hx).2.1 1)
    obtain ⟨hy3, hs3⟩ := hy2.setChanges (wrap64 (m.changes + 1))
    refine ⟨by rw [he'.out]; rfl, T, (f1.trans hs2).trans hs3, ?_⟩
    rw [hM.out]
    exact hy3
  · have hM : Hid (ackM m s off tr = m) := hide (by simp [ackM, he])
    go_wp2
    go_ret
    refine ⟨rfl, T, f1, ?_⟩
    rw [hM.out]
    exact hy

end Go.Proofs.YtockkceclkcgbaaGreatDoor

/- Contracts of the document's Nack, Extend and Tick. -/
namespace Go.Proofs.YtockkceclkcgbaaGreatDoor
open Go.RowKit

/-- a write into the item, where its row is known by the cells that lead to it -/
theorem YQ.itemAt {w : World} {T : Nat → Tag} {i b : Nat} {m : MQ} {k n gb gc gi ic : Nat} {g : MG} {x : It} (hy : YQ w T i b m.rq) (hok : m.Ok) (hg : m.groups[k]? = some g) (hx : g.items[n]? = some x)
    (c6 : w.cell? ⟨b, 6, none⟩ = some (.slice (some ⟨gb, 0, none⟩) m.groups.length gc)) (d2 : w.cell? ⟨gb, k * 4 + 2, none⟩ = some (.slice (some ⟨gi, 0, none⟩) m.bodies.length ic))
    (f : Nat) (v : Value) (y : It) (hf : f < 4) (hs : (itVals g.items).set (n * 4 + f) v = itVals (g.items.set n y)) :
    YQ (w.setCell ⟨gi, n * 4 + f, none⟩ v) T i b (m.setI k n y).rq ∧ Step (fun t => ∃ r j, t = .y i r j) w T (w.setCell ⟨gi, n * 4 + f, none⟩ v) T := by
  obtain ⟨gb', gc', gi', ic', c6', d2', _, _, _, _, _, _, _, _, _, _, _, _, _, _, _, hset⟩ := hy.item hok hg hx
  rw [c6] at c6'
  have e1 : gb' = gb := by simpa using (congrArg (fun o => match o with | some (Value.slice (some a) _ _) => a.block | _ => 0) c6').symm
  subst e1
  rw [d2] at d2'
  have e2 : gi' = gi := by simpa using (congrArg (fun o => match o with | some (Value.slice (some a) _ _) => a.block | _ => 0) d2').symm
  subst e2
  exact hset f v y hf hs

theorem setI_twice {m : MQ} {k n : Nat} {y z : It} : (m.setI k n y).setI k n z = m.setI k n z := by
  unfold MQ.setI
  simp only
  congr 1
  apply List.ext_getElem?
  intro j
  simp only [List.getElem?_modify]
  by_cases h : k = j
  · subst h
    cases m.groups[k]? <;> simp
  · cases m.groups[j]? <;> simp [h]

/-- Nack's and Extend's error: the range's ahead of the lease's -/
def rangedE (m : MQ) (s : ByteArray) (off tr n lo : Int) : Int := bif (m.at s).isSome && !btw n lo 60000 then 11 else leasedE m s off tr
def nackM (m : MQ) (s : ByteArray) (off tr d : Int) : MQ := bif decide (rangedE m s off tr d 0 = 0) then onLeased m s off 0 (fun x => { x with till := 0, after := m.time + d }) else m
def extendM (m : MQ) (s : ByteArray) (off tr d : Int) : MQ := bif decide (rangedE m s off tr d 1 = 0) then onLeased m s off 0 (fun x => { x with till := m.time + d }) else m

theorem leased_none {m : MQ} {s : ByteArray} {off tr : Int} (h : m.at s = none) : leasedE m s off tr = 10 := by simp [leasedE, h]

set_option maxRecDepth 100000 in
set_option maxHeartbeats 2000000 in
theorem ynack_any (i b : Nat) (m : MQ) (s : ByteArray) (off tr d : Int) (w : World) (T : Nat → Tag) (hy : YQ w T i b m.rq) (hok : m.Ok) :
    Calls Tryz.prog 113 #[.pointer (some ⟨b, 0, none⟩), .string s, .int .i64 off, .int .i64 tr, .int .i64 d] w fun e w' => e = .returned (.int .i64 (rangedE m s off tr d 0)) ∧ ∃ T', Step (fun t => ∃ r j, t = .y i r j) w T w' T' ∧ YQ w' T' i b (nackM m s off tr d).rq := by
  go_enter Tryz.func113, Tryz.ntmps113
  go_wp2_with fail
  refine (yat_any i b m.rq s w T hy).mono ?_
  rintro e w0 ⟨rfl, rfl⟩
  -- the range
  by_cases hr : (m.at s).isSome = true ∧ btw d 0 60000 = false
  · obtain ⟨k, ha⟩ := Option.isSome_iff_exists.1 hr.1
    rw [place_some ha]
    have hE : Hid (rangedE m s off tr d 0 = 11) := hide (by simp [rangedE, ha, hr.2])
    have hM : Hid (nackM m s off tr d = m) := hide (by simp [nackM, hE.out])
    have hd := btw_false hr.2
    clear hr
    by_cases h0 : d < 0
    · go_wp2
      go_ret
      exact ⟨by rw [hE.out]; rfl, T, Step.refl _ _ _, by rw [hM.out]; exact hy⟩
    · have h1 : 60000 < d := by omega
      go_wp2
      go_ret
      exact ⟨by rw [hE.out]; rfl, T, Step.refl _ _ _, by rw [hM.out]; exact hy⟩
  · have hE : Hid (rangedE m s off tr d 0 = leasedE m s off tr) := hide (by
      unfold rangedE
      cases h1 : (m.at s).isSome
      · simp
      · cases h2 : btw d 0 60000
        · exact absurd ⟨h1, h2⟩ hr
        · simp)
    cases ha : m.at s with
    | none =>
      rw [place_none ha]
      have hM : Hid (nackM m s off tr d = m) := hide (by simp [nackM, hE.out, leased_none ha])
      go_wp2_with fail
      refine (yleased_any i b m s off tr _ T hy hok).mono ?_
      rintro e w1 ⟨rfl, hb1⟩
      have f1 : Step (fun t => ∃ r j, t = .y i r j) w0 T w1 T := step_below _ T hb1
      replace hy := hy.step (step_below (fun _ => False) T hb1) (fun _ _ h => h)
      have h10 : Hid (leasedE m s off tr = 10) := hide (leased_none ha)
      rw [h10.out]
      go_wp2
      go_ret
      exact ⟨by rw [hE.out, h10.out]; rfl, T, f1, by rw [hM.out]; exact hy⟩
    | some k0 =>
      rw [place_some ha]
      have hd : 0 ≤ d ∧ d ≤ 60000 := btw_true (by
        cases h2 : btw d 0 60000
        · exact absurd ⟨by simp [ha], h2⟩ hr
        · rfl)
      clear hr
      have hd0 : ¬ d < 0 := by omega
      have hd1 : ¬ 60000 < d := by omega
      go_wp2_with fail
      refine (yleased_any i b m s off tr _ T hy hok).mono ?_
      rintro e w1 ⟨rfl, hb1⟩
      have f1 : Step (fun t => ∃ r j, t = .y i r j) w0 T w1 T := step_below _ T hb1
      replace hy := hy.step (step_below (fun _ => False) T hb1) (fun _ _ h => h)
      by_cases he : leasedE m s off tr = 0
      · obtain ⟨k, n, g, x, ha2, hg, rfl, hx, hn, hK⟩ := leased_found hok he
        have hM : Hid (nackM m s n tr d = m.setI k n { x with till := 0, after := m.time + d }) := hide (by simp [nackM, hE.out, he, onLeased_ok ha2 hg hx])
        have hz : Hid (leasedE m s n tr = 0) := hide he
        rw [he, hK]
        clear he hK
        obtain ⟨gb, gc, gi, ic, c6, d2, ⟨t0, t1, t2, t3⟩, hfz, hfb, ne1, ne2, ne3, l1, l2, l3, c7, c8, hkl, h6, hnl, h400, hset⟩ := hy.item hok hg hx
        have z2 := hfz (n * 4 + 2)
        have z3 := hfz (n * 4 + 3)
        have htm := hok.time
        have hwr : wrap64 (m.time + d) = m.time + d := by unfold wrap64; omega
        clear hb1
        go_wp2_with fail
        go_region
        all_goals
          go_wp2
          go_ret
          obtain ⟨hy2, hs2⟩ := hset 2 (.int .i64 0) { x with till := 0 } (by decide) ((itVals_set g.items n x hx).2.2.1 0)
          have hg2 : (m.setI k n { x with till := 0 }).groups[k]? = some { g with items := g.items.set n { x with till := 0 } } := by simp [setI_group, hg]
          have hx2 : (g.items.set n { x with till := 0 })[n]? = some { x with till := 0 } := by
            have hl := (List.getElem?_eq_some_iff.1 hx).1
            simp [hl]
          obtain ⟨hy3, hs3⟩ := hy2.itemAt (setI_ok hok) hg2 hx2 (gb := gb) (gc := gc) (gi := gi) (ic := ic) (by rw [setI_len]; exact (World.cell?_of_block (Below.heap_setCell _ _ _ _ (fun e => ne1 e.symm))).trans c6) ((World.cell?_of_block (Below.heap_setCell _ _ _ _ (fun e => ne2 e.symm))).trans d2) 3 (.int .i64 (m.time + d)) { x with till := 0, after := m.time + d } (by decide) ((itVals_set _ n _ hx2).2.2.2 (m.time + d))
          rw [setI_twice] at hy3
          refine ⟨?_, T, (f1.trans hs2).trans (hs3.trans (step_below _ T (Below.refl _ _).drew)), ?_⟩
          · rw [hE.out, hz.out]; rfl
          · rw [hM.out]
            exact hy3.step (step_below (fun _ => False) T (Below.refl _ _).drew) (fun _ _ h => h)
      · have hM : Hid (nackM m s off tr d = m) := hide (by simp [nackM, hE.out, he])
        clear hb1
        go_wp2
        go_ret
        exact ⟨by rw [hE.out]; rfl, T, f1, by rw [hM.out]; exact hy⟩

set_option maxRecDepth 100000 in
set_option maxHeartbeats 2000000 in
theorem yextend_any (i b : Nat) (m : MQ) (s : ByteArray) (off tr d : Int) (w : World) (T : Nat → Tag) (hy : YQ w T i b m.rq) (hok : m.Ok) :
    Calls Tryz.prog 115 #[.pointer (some ⟨b, 0, none⟩), .string s, .int .i64 off, .int .i64 tr, .int .i64 d] w fun e w' => e = .returned (.int .i64 (rangedE m s off tr d 1)) ∧ ∃ T', Step (fun t => ∃ r j, t = .y i r j) w T w' T' ∧ YQ w' T' i b (extendM m s off tr d).rq := by
  go_enter Tryz.func115, Tryz.ntmps115
  go_wp2_with fail
  refine (yat_any i b m.rq s w T hy).mono ?_
  rintro e w0 ⟨rfl, rfl⟩
  -- the range
  by_cases hr : (m.at s).isSome = true ∧ btw d 1 60000 = false
  · obtain ⟨k, ha⟩ := Option.isSome_iff_exists.1 hr.1
    rw [place_some ha]
    have hE : Hid (rangedE m s off tr d 1 = 11) := hide (by simp [rangedE, ha, hr.2])
    have hM : Hid (extendM m s off tr d = m) := hide (by simp [extendM, hE.out])
    have hd := btw_false hr.2
    clear hr
    by_cases h0 : d < 1
    · go_wp2
      go_ret
      exact ⟨by rw [hE.out]; rfl, T, Step.refl _ _ _, by rw [hM.out]; exact hy⟩
    · have h1 : 60000 < d := by omega
      go_wp2
      go_ret
      exact ⟨by rw [hE.out]; rfl, T, Step.refl _ _ _, by rw [hM.out]; exact hy⟩
  · have hE : Hid (rangedE m s off tr d 1 = leasedE m s off tr) := hide (by
      unfold rangedE
      cases h1 : (m.at s).isSome
      · simp
      · cases h2 : btw d 1 60000
        · exact absurd ⟨h1, h2⟩ hr
        · simp)
    cases ha : m.at s with
    | none =>
      rw [place_none ha]
      have hM : Hid (extendM m s off tr d = m) := hide (by simp [extendM, hE.out, leased_none ha])
      go_wp2_with fail
      refine (yleased_any i b m s off tr _ T hy hok).mono ?_
      rintro e w1 ⟨rfl, hb1⟩
      have f1 : Step (fun t => ∃ r j, t = .y i r j) w0 T w1 T := step_below _ T hb1
      replace hy := hy.step (step_below (fun _ => False) T hb1) (fun _ _ h => h)
      have h10 : Hid (leasedE m s off tr = 10) := hide (leased_none ha)
      rw [h10.out]
      go_wp2
      go_ret
      exact ⟨by rw [hE.out, h10.out]; rfl, T, f1, by rw [hM.out]; exact hy⟩
    | some k0 =>
      rw [place_some ha]
      have hd : 1 ≤ d ∧ d ≤ 60000 := btw_true (by
        cases h2 : btw d 1 60000
        · exact absurd ⟨by simp [ha], h2⟩ hr
        · rfl)
      clear hr
      have hd0 : ¬ d < 1 := by omega
      have hd1 : ¬ 60000 < d := by omega
      go_wp2_with fail
      refine (yleased_any i b m s off tr _ T hy hok).mono ?_
      rintro e w1 ⟨rfl, hb1⟩
      have f1 : Step (fun t => ∃ r j, t = .y i r j) w0 T w1 T := step_below _ T hb1
      replace hy := hy.step (step_below (fun _ => False) T hb1) (fun _ _ h => h)
      by_cases he : leasedE m s off tr = 0
      · obtain ⟨k, n, g, x, ha2, hg, rfl, hx, hn, hK⟩ := leased_found hok he
        have hM : Hid (extendM m s n tr d = m.setI k n { x with till := m.time + d }) := hide (by simp [extendM, hE.out, he, onLeased_ok ha2 hg hx])
        have hz : Hid (leasedE m s n tr = 0) := hide he
        rw [he, hK]
        clear he hK
        obtain ⟨gb, gc, gi, ic, c6, d2, ⟨t0, t1, t2, t3⟩, hfz, hfb, ne1, ne2, ne3, l1, l2, l3, c7, c8, hkl, h6, hnl, h400, hset⟩ := hy.item hok hg hx
        have z2 := hfz (n * 4 + 2)
        have htm := hok.time
        have hwr : wrap64 (m.time + d) = m.time + d := by unfold wrap64; omega
        clear hb1
        go_wp2_with fail
        go_region
        all_goals
          go_wp2
          go_ret
          obtain ⟨hy2, hs2⟩ := hset 2 (.int .i64 (m.time + d)) { x with till := m.time + d } (by decide) ((itVals_set g.items n x hx).2.2.1 (m.time + d))
          refine ⟨?_, T, (f1.trans hs2).trans (step_below _ T (Below.refl _ _).drew), ?_⟩
          · rw [hE.out, hz.out]; rfl
          · rw [hM.out]
            exact hy2.step (step_below (fun _ => False) T (Below.refl _ _).drew) (fun _ _ h => h)
      · have hM : Hid (extendM m s off tr d = m) := hide (by simp [extendM, hE.out, he])
        clear hb1
        go_wp2
        go_ret
        exact ⟨by rw [hE.out]; rfl, T, f1, by rw [hM.out]; exact hy⟩

def tickE (d : Int) : Int := bif btw d 0 60000 then 0 else 11
def tickM (m : MQ) (d : Int) : MQ := bif btw d 0 60000 then { m with time := m.time + d } else m

set_option maxRecDepth 100000 in
set_option maxHeartbeats 2000000 in
theorem ytick_any (i b : Nat) (m : MQ) (d : Int) (w : World) (T : Nat → Tag) (hy : YQ w T i b m.rq) (hok : m.Ok) :
    Calls Tryz.prog 116 #[.pointer (some ⟨b, 0, none⟩), .int .i64 d] w fun e w' => e = .returned (.int .i64 (tickE d)) ∧ ∃ T', Step (fun t => ∃ r j, t = .y i r j) w T w' T' ∧ YQ w' T' i b (tickM m d).rq := by
  have hy0 := hy
  obtain ⟨_, _, _, vB, vG, vi, vd, hB, _⟩ := hy
  have c7 := hB.cell (j := 7) rfl
  have z7 := hB.frozen 7
  simp only [List.getElem_toArray, List.getElem_cons_succ, List.getElem_cons_zero] at c7
  have e7 : m.rq.time = m.time := rfl
  rw [e7] at c7
  have htm := hok.time
  clear hB e7
  by_cases h0 : d < 0
  · have hb : Hid (btw d 0 60000 = false) := hide (by simp [btw]; omega)
    go_enter Tryz.func116, Tryz.ntmps116
    go_wp2
    go_ret
    exact ⟨by rw [tickE, hb.out]; rfl, T, Step.refl _ _ _, by rw [show tickM m d = m by simp [tickM, hb.out]]; exact hy0⟩
  by_cases h1 : 60000 < d
  · have hb : Hid (btw d 0 60000 = false) := hide (by simp [btw]; omega)
    go_enter Tryz.func116, Tryz.ntmps116
    go_wp2
    go_ret
    exact ⟨by rw [tickE, hb.out]; rfl, T, Step.refl _ _ _, by rw [show tickM m d = m by simp [tickM, hb.out]]; exact hy0⟩
  · have hb : Hid (btw d 0 60000 = true) := hide (by simp [btw]; omega)
    have hwr : wrap64 (m.time + d) = m.time + d := by unfold wrap64; omega
    go_enter Tryz.func116, Tryz.ntmps116
    go_wp2
    go_ret
    obtain ⟨h2, h3⟩ := hy0.setTime (m.time + d)
    exact ⟨by rw [tickE, hb.out]; rfl, T, h3, by rw [show tickM m d = { m with time := m.time + d } by simp [tickM, hb.out]]; exact h2⟩

end Go.Proofs.YtockkceclkcgbaaGreatDoor

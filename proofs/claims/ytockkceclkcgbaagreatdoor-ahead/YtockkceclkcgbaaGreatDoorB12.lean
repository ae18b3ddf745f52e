/- What the program keeps of a group, as plain mathematics, held against the document's group: each call keeps the two alike. -/
import Derived.Test.YtockkceclkcgbaaGreatDoorB11
import Derived.Test.YtockkceclkcgbaaGreatDoorB07
namespace Go.Proofs.YtockkceclkcgbaaGreatDoor
open Go.RowKit

/-- What the program keeps of a group: its start, the ranges of what is done, the dead, how often each message was delivered, what each waits for. -/
structure PG where
  start : Int
  done : RL
  dead : List Dl
  tr : Int → Int
  wt : Int → Option (Int × Bool)

def triesOf : Option It → Int
  | some x => bif decide (0 < x.done) then 0 else x.tries
  | none => 0
def waitOf (t : Int) : Option It → Option (Int × Bool)
  | some x => bif decide (0 < x.done) then none else bif decide (t < x.till) then some (x.till, true) else bif decide (t < x.after) then some (x.after, false) else none
  | none => none

/-- The program's group tells the document's. -/
structure RelG (m : MQ) (g : MG) (p : PG) : Prop where
  start : p.start = g.start
  set : setB p.done = true
  done : ∀ n, hasB p.done n = doneB g.items n
  dead : p.dead = g.dead.map (deadOf m g)
  tr : ∀ n, p.tr n = triesOf (itemAt g.items n)
  wt : ∀ n, p.wt n = waitOf m.time (itemAt g.items n)

/-- What holds of every group. -/
structure InvG (m : MQ) (g : MG) : Prop where
  done : ∀ x ∈ g.items, 0 ≤ x.done
  tries : ∀ x ∈ g.items, 0 ≤ x.tries ∧ x.tries ≤ m.c.d
  excl : ∀ x ∈ g.items, m.time < x.till → x.after ≤ m.time
  dead : ∀ n ∈ g.dead, doneB g.items n = true

def upd {α : Type} (f : Int → α) (n : Int) (v : α) : Int → α := fun j => if j = n then v else f j

def finishP (p : PG) (n : Int) : PG := { p with done := addTo p.done n n, tr := upd p.tr n 0, wt := upd p.wt n none }
def leaseP (p : PG) (n u : Int) : PG := { p with wt := upd p.wt n (some (u, true)) }
def delayP (p : PG) (n u : Int) : PG := { p with wt := upd p.wt n (some (u, false)) }
def countP (p : PG) (n : Int) : PG := { p with tr := upd p.tr n (wrap64 (p.tr n + 1)) }
def wakeP (p : PG) (t : Int) : PG := { p with wt := fun j => (p.wt j).filter (fun u => decide (t < u.1)) }
def buryP (p : PG) (d : Dl) : PG := { p with dead := p.dead ++ [d] }
def newP (s : Int) : PG := ⟨s, [], [], fun _ => 0, fun _ => none⟩

theorem doneB_at (l : List It) (n : Int) : doneB l n = match itemAt l n with | some x => decide (0 < x.done) | none => false := rfl
theorem isR_one {n : Nat} (h : n < 400) : isR (n : Int) (n : Int) = true := by simp [isR]; omega

theorem doneB_set {l : List It} {n : Nat} {y : It} (hn : n < l.length) (j : Int) : doneB (l.set n y) j = if j = n then decide (0 < y.done) else doneB l j := by
  unfold doneB
  rw [itemAt_set hn]
  by_cases h : j = n <;> simp [h]

theorem mem_set {l : List It} {n : Nat} {y : It} {P : It → Prop} (h : ∀ x ∈ l, P x) (hy : P y) : ∀ x ∈ l.set n y, P x := by
  intro x hx
  rcases List.mem_or_eq_of_mem_set hx with h1 | h1
  · exact h x h1
  · rw [h1]; exact hy

theorem getD_set_dead {m : MQ} {g : MG} {n : Nat} {x y : It} {d : List Nat} {ms : MQ} (hm : ms.bodies = m.bodies) (hx : g.items[n]? = some x) (hd : y.tries = x.tries ∨ ∀ k ∈ d, k ≠ n) :
    d.map (deadOf ms { g with items := g.items.set n y }) = d.map (deadOf m g) := by
  apply List.map_congr_left
  intro k hk
  simp only [deadOf, hm, Dl.mk.injEq, true_and, and_true]
  by_cases hkn : k = n
  · subst hkn
    obtain ⟨hlt, hex⟩ := List.getElem?_eq_some_iff.1 hx
    rcases hd with hd | hd
    · simp [List.getD, hex, hd, hlt]
    · exact absurd rfl (hd k hk)
  · have : ¬ n = k := fun e => hkn e.symm
    simp [List.getD, this]

/-- a message is done with -/
theorem rel_finish {m ms : MQ} {g : MG} {p : PG} {n : Nat} {x : It} {d : Int} (hr : RelG m g p) (hx : g.items[n]? = some x) (hn : n < 400) (hd : 0 < d) (ht : ms.time = m.time) (hb : ms.bodies = m.bodies) :
    RelG ms { g with items := g.items.set n { x with done := d } } (finishP p n) := by
  have hlt := (List.getElem?_eq_some_iff.1 hx).1
  refine ⟨hr.start, addTo_setB hr.set (isR_one hn), fun j => ?_, ?_, fun j => ?_, fun j => ?_⟩
  · show hasB (addTo p.done n n) j = _
    rw [addTo_has j hr.set (isR_one hn), hr.done j, doneB_set hlt]
    by_cases hj : j = n
    · subst hj; simp [withinB, hd]
    · have : withinB (n : Int) n j = false := by simp [withinB]; omega
      simp [hj, this]
  · refine hr.dead.trans (Eq.symm ?_)
    apply getD_set_dead hb hx
    exact .inl rfl
  · show upd p.tr n 0 j = _
    rw [itemAt_set hlt]
    by_cases hj : j = n <;> simp [upd, hj, triesOf, hd, hr.tr]
  · show upd p.wt n none j = _
    rw [itemAt_set hlt, ht]
    by_cases hj : j = n <;> simp [upd, hj, waitOf, hd, hr.wt]
theorem inv_set {m ms : MQ} {g : MG} {n : Nat} {x y : It} (hi : InvG m g) (hx : g.items[n]? = some x) (h0 : 0 ≤ y.done) (h1 : 0 ≤ y.tries ∧ y.tries ≤ m.c.d) (h2 : m.time < y.till → y.after ≤ m.time) (h3 : 0 < x.done → 0 < y.done) (ht : ms.time = m.time) (hc : ms.c = m.c) :
    InvG ms { g with items := g.items.set n y } := by
  have hlt := (List.getElem?_eq_some_iff.1 hx).1
  refine ⟨mem_set hi.done h0, ?_, ?_, fun k hk => ?_⟩
  · rw [hc]; exact mem_set hi.tries h1
  · rw [ht]; exact mem_set hi.excl h2
  · rw [doneB_set hlt]
    have := hi.dead k hk
    by_cases hkn : (k : Int) = n
    · have e : k = n := by omega
      subst e
      rw [doneB_at, itemAt_nat, hx] at this
      simp at this
      simp [h3 this]
    · simp [hkn, this]

theorem notDone {m : MQ} {g : MG} {n : Nat} {x : It} (hi : InvG m g) (hx : g.items[n]? = some x) (hd : ¬ 0 < x.done) : ∀ k ∈ g.dead, k ≠ n := by
  intro k hk e
  subst e
  have := hi.dead k hk
  rw [doneB_at, itemAt_nat, hx] at this
  simp at this
  exact hd this

/-- a message is delivered once more -/
theorem rel_deliver {m ms : MQ} {g : MG} {p : PG} {n : Nat} {x : It} {u : Int} (hr : RelG m g p) (hi : InvG m g) (hx : g.items[n]? = some x) (hd : ¬ 0 < x.done) (hu : m.time < u) (ht : ms.time = m.time) (hb : ms.bodies = m.bodies) :
    RelG ms { g with items := g.items.set n { x with tries := wrap64 (x.tries + 1), till := u } } (leaseP (countP p n) n u) := by
  have hlt := (List.getElem?_eq_some_iff.1 hx).1
  refine ⟨hr.start, hr.set, fun j => ?_, ?_, fun j => ?_, fun j => ?_⟩
  · show hasB p.done j = _
    rw [hr.done j, doneB_set hlt]
    by_cases hj : j = n
    · subst hj; simp [doneB_at, itemAt_nat, hx]
    · simp [hj]
  · exact hr.dead.trans (getD_set_dead hb hx (.inr (notDone hi hx hd))).symm
  · show upd p.tr n (wrap64 (p.tr n + 1)) j = _
    rw [itemAt_set hlt]
    by_cases hj : j = n
    · subst hj; simp [upd, triesOf, hd, hr.tr, itemAt_nat, hx]
    · simp [upd, hj, hr.tr]
  · show upd p.wt n (some (u, true)) j = _
    rw [itemAt_set hlt, ht]
    by_cases hj : j = n
    · subst hj; simp [upd, waitOf, hd, hu]
    · simp [upd, hj, hr.wt]

/-- a lease is made longer -/
theorem rel_extend {m ms : MQ} {g : MG} {p : PG} {n : Nat} {x : It} {u : Int} (hr : RelG m g p) (hx : g.items[n]? = some x) (hd : ¬ 0 < x.done) (hu : m.time < u) (ht : ms.time = m.time) (hb : ms.bodies = m.bodies) :
    RelG ms { g with items := g.items.set n { x with till := u } } (leaseP p n u) := by
  have hlt := (List.getElem?_eq_some_iff.1 hx).1
  refine ⟨hr.start, hr.set, fun j => ?_, ?_, fun j => ?_, fun j => ?_⟩
  · show hasB p.done j = _
    rw [hr.done j, doneB_set hlt]
    by_cases hj : j = n
    · subst hj; simp [doneB_at, itemAt_nat, hx]
    · simp [hj]
  · refine hr.dead.trans (Eq.symm ?_)
    apply getD_set_dead hb hx
    exact .inl rfl
  · show p.tr j = _
    rw [itemAt_set hlt, hr.tr j]
    by_cases hj : j = n
    · subst hj; simp [triesOf, hd, itemAt_nat, hx]
    · simp [hj]
  · show upd p.wt n (some (u, true)) j = _
    rw [itemAt_set hlt, ht]
    by_cases hj : j = n
    · subst hj; simp [upd, waitOf, hd, hu]
    · simp [upd, hj, hr.wt]

theorem waitOf_filter (t : Int) (o : Option It) : (waitOf t o).filter (fun u => decide (t < u.1)) = waitOf t o := by
  cases o with
  | none => rfl
  | some x =>
    unfold waitOf
    by_cases h1 : 0 < x.done <;> by_cases h2 : t < x.till <;> by_cases h3 : t < x.after <;> simp [h1, h2, h3]

/-- a message is given back -/
theorem rel_nack {m ms : MQ} {g : MG} {p : PG} {n : Nat} {x : It} {d : Int} (hr : RelG m g p) (hx : g.items[n]? = some x) (hd : ¬ 0 < x.done) (h0 : 0 ≤ m.time) (ht : ms.time = m.time) (hb : ms.bodies = m.bodies) :
    RelG ms { g with items := g.items.set n { x with till := 0, after := m.time + d } } (wakeP (delayP p n (m.time + d)) m.time) := by
  have hlt := (List.getElem?_eq_some_iff.1 hx).1
  refine ⟨hr.start, hr.set, fun j => ?_, ?_, fun j => ?_, fun j => ?_⟩
  · show hasB p.done j = _
    rw [hr.done j, doneB_set hlt]
    by_cases hj : j = n
    · subst hj; simp [doneB_at, itemAt_nat, hx]
    · simp [hj]
  · refine hr.dead.trans (Eq.symm ?_)
    apply getD_set_dead hb hx
    exact .inl rfl
  · show p.tr j = _
    rw [itemAt_set hlt, hr.tr j]
    by_cases hj : j = n
    · subst hj; simp [triesOf, hd, itemAt_nat, hx]
    · simp [hj]
  · show (upd p.wt n (some (m.time + d, false)) j).filter (fun u => decide (m.time < u.1)) = _
    rw [itemAt_set hlt, ht]
    by_cases hj : j = n
    · subst hj
      have h1 : ¬ m.time < 0 := by omega
      by_cases h2 : m.time < m.time + d
      · simp [upd, waitOf, hd, h1, h2]
      · simp [upd, waitOf, hd, h1, h2]
        omega
    · simp only [upd, hj, if_false, hr.wt]
      exact waitOf_filter _ _

/-- time goes by -/
theorem rel_tick {m ms : MQ} {g : MG} {p : PG} {d : Int} (hr : RelG m g p) (hi : InvG m g) (h0 : 0 ≤ d) (ht : ms.time = m.time + d) (hb : ms.bodies = m.bodies) : RelG ms g (wakeP p (m.time + d)) := by
  refine ⟨hr.start, hr.set, hr.done, ?_, hr.tr, fun j => ?_⟩
  · rw [show (wakeP p (m.time + d)).dead = p.dead from rfl, hr.dead]
    apply List.map_congr_left
    intro k _
    simp [deadOf, hb]
  · show (p.wt j).filter (fun u => decide (m.time + d < u.1)) = _
    rw [hr.wt j, ht]
    cases hx : itemAt g.items j with
    | none => rfl
    | some x =>
      have he := hi.excl x (List.mem_of_getElem? (itemAt_some hx).2)
      unfold waitOf
      by_cases h1 : 0 < x.done
      · simp [h1]
      · by_cases h2 : m.time < x.till
        · have h3 := he h2
          by_cases h4 : m.time + d < x.till
          · simp [h1, h2, h4]
          · have h5 : ¬ m.time + d < x.after := by omega
            simp [h1, h2, h4, h5]
            omega
        · have h4 : ¬ m.time + d < x.till := by omega
          by_cases h3 : m.time < x.after
          · by_cases h5 : m.time + d < x.after
            · simp [h1, h2, h3, h4, h5]
            · simp [h1, h2, h3, h4, h5]
              omega
          · have h5 : ¬ m.time + d < x.after := by omega
            simp [h1, h2, h3, h4, h5]
theorem inv_tick {m ms : MQ} {g : MG} {d : Int} (hi : InvG m g) (h0 : 0 ≤ d) (ht : ms.time = m.time + d) (hc : ms.c = m.c) : InvG ms g :=
  ⟨hi.done, by rw [hc]; exact hi.tries, fun x hx h => by rw [ht] at h ⊢; have := hi.excl x hx (by omega); omega, hi.dead⟩

/-- a message more -/
theorem itemAt_snoc {l : List It} {j : Int} : itemAt (l ++ [It.zero]) j = if j = l.length then some It.zero else itemAt l j := by
  unfold itemAt
  by_cases h0 : 0 ≤ j
  · simp only [h0, decide_true, cond_true]
    by_cases hj : j = l.length
    · subst hj; simp
    · simp only [hj, if_false]
      rcases Nat.lt_or_ge j.toNat l.length with h | h
      · rw [List.getElem?_append_left h]
      · rw [List.getElem?_eq_none (by simp; omega), List.getElem?_eq_none h]
  · have : ¬ j = l.length := by omega
    simp [h0, this]
theorem rel_enq {m ms : MQ} {g : MG} {p : PG} {s : ByteArray} (hr : RelG m g p) (hi : InvG m g) (hl : g.items.length = m.bodies.length) (h0 : 0 ≤ m.time) (ht : ms.time = m.time) (hb : ms.bodies = m.bodies ++ [s]) : RelG ms { g with items := g.items ++ [It.zero] } p := by
  refine ⟨hr.start, hr.set, fun j => ?_, ?_, fun j => ?_, fun j => ?_⟩
  · rw [hr.done j, doneB_at, doneB_at]
    show _ = match itemAt (g.items ++ [It.zero]) j with | some x => decide (0 < x.done) | none => false
    rw [itemAt_snoc]
    by_cases hj : j = g.items.length
    · subst hj; simp [itemAt_nat]
    · simp [hj]
  · rw [hr.dead]
    apply List.map_congr_left
    intro k hk
    obtain ⟨j, x, e, hx, _⟩ := doneB_iff.1 (hi.dead k hk)
    have e' : k = j := by omega
    subst e'
    have hlt := (List.getElem?_eq_some_iff.1 hx).1
    simp only [deadOf, hb, List.getD, List.getElem?_append_left hlt, List.getElem?_append_left (show k < m.bodies.length by omega)]
  · rw [hr.tr j]
    show _ = triesOf (itemAt (g.items ++ [It.zero]) j)
    rw [itemAt_snoc]
    by_cases hj : j = g.items.length
    · subst hj; simp [itemAt_nat, triesOf]
    · simp [hj]
  · rw [hr.wt j, ht]
    show _ = waitOf m.time (itemAt (g.items ++ [It.zero]) j)
    rw [itemAt_snoc]
    by_cases hj : j = g.items.length
    · subst hj
      have : ¬ m.time < 0 := by omega
      simp [itemAt_nat, waitOf, this]
    · simp [hj]
theorem inv_enq {m ms : MQ} {g : MG} (hi : InvG m g) (h0 : 0 ≤ m.time) (hd : 0 ≤ m.c.d) (ht : ms.time = m.time) (hc : ms.c = m.c) : InvG ms { g with items := g.items ++ [It.zero] } := by
  have hz : ∀ {P : It → Prop}, (∀ x ∈ g.items, P x) → P It.zero → ∀ x ∈ g.items ++ [It.zero], P x := fun h h1 x hx => by
    rcases List.mem_append.1 hx with h2 | h2
    · exact h x h2
    · simp at h2; rw [h2]; exact h1
  refine ⟨hz hi.done (by simp), ?_, ?_, fun k hk => ?_⟩
  · rw [hc]; exact hz hi.tries ⟨by simp, hd⟩
  · rw [ht]; exact hz hi.excl (fun h => by simp at h ⊢; omega)
  · obtain ⟨j, x, e, hx, hd⟩ := doneB_iff.1 (hi.dead k hk)
    have hlt := (List.getElem?_eq_some_iff.1 hx).1
    exact doneB_iff.2 ⟨j, x, e, by rw [List.getElem?_append_left hlt]; exact hx, hd⟩

/-- a new group -/
theorem itemAt_zeros (n : Nat) (j : Int) : itemAt (List.replicate n It.zero) j = none ∨ itemAt (List.replicate n It.zero) j = some It.zero := by
  unfold itemAt
  by_cases h0 : 0 ≤ j
  · simp only [h0, decide_true, cond_true, List.getElem?_replicate]
    by_cases h1 : j.toNat < n <;> simp [h1]
  · simp [h0]
theorem rel_new {m : MQ} {s : ByteArray} {fr : Int} (h0 : 0 ≤ m.time) : RelG m ⟨s, fr, List.replicate m.bodies.length It.zero, []⟩ (newP fr) := by
  refine ⟨rfl, rfl, fun j => ?_, rfl, fun j => ?_, fun j => ?_⟩
  · rw [doneB_at]
    rcases itemAt_zeros m.bodies.length j with h | h <;> simp [h, newP, hasB]
  · rcases itemAt_zeros m.bodies.length j with h | h <;> simp [h, newP, triesOf]
  · have : ¬ m.time < 0 := by omega
    rcases itemAt_zeros m.bodies.length j with h | h <;> simp [h, newP, waitOf, this]
theorem inv_new {m : MQ} {s : ByteArray} {fr : Int} (h0 : 0 ≤ m.time) (hd : 0 ≤ m.c.d) : InvG m ⟨s, fr, List.replicate m.bodies.length It.zero, []⟩ := by
  have hz : ∀ x ∈ List.replicate m.bodies.length It.zero, x = It.zero := fun x hx => (List.mem_replicate.1 hx).2
  refine ⟨fun x hx => ?_, fun x hx => ?_, fun x hx h => ?_, fun k hk => by cases hk⟩
  · rw [hz x hx]; simp
  · rw [hz x hx]; exact ⟨by simp, hd⟩
  · rw [hz x hx] at h ⊢; simp at h ⊢; omega

/-- what stays of a group where its queue changes elsewhere -/
theorem RelG.same {m ms : MQ} {g : MG} {p : PG} (hr : RelG m g p) (ht : ms.time = m.time) (hb : ms.bodies = m.bodies) : RelG ms g p := by
  refine ⟨hr.start, hr.set, hr.done, ?_, hr.tr, by rw [ht]; exact hr.wt⟩
  rw [hr.dead]
  apply List.map_congr_left
  intro k _
  simp [deadOf, hb]
theorem InvG.same {m ms : MQ} {g : MG} (hi : InvG m g) (ht : ms.time = m.time) (hc : ms.c = m.c) : InvG ms g :=
  ⟨hi.done, by rw [hc]; exact hi.tries, by rw [ht]; exact hi.excl, hi.dead⟩

end Go.Proofs.YtockkceclkcgbaaGreatDoor

/- The document's Receive as one walk over the messages that may be delivered: first those that come again, then the new ones. -/
namespace Go.Proofs.YtockkceclkcgbaaGreatDoor
open Go.RowKit

/-- a message is looked at -/
def visit (m : MQ) (start : Int) (st : RS) (v : Nat) : RS := match st.items[v]? with
  | none => st
  | some x => recvOne m start st v x
def takeV (m : MQ) (start n : Int) : List Nat → RS → RS
  | [], st => st
  | v :: r, st => bif decide (n ≤ st.out.length) then st else takeV m start n r (visit m start st v)

def triedB (l : List It) (v : Nat) : Bool := match l[v]? with | some x => !decide (x.tries = 0) | none => false
def freshB (l : List It) (v : Nat) : Bool := match l[v]? with | some x => decide (x.tries = 0) | none => false
def candB (m : MQ) (g : MG) (v : Nat) : Bool := match g.items[v]? with | some x => !passed m g.start v x | none => false
/-- what may be delivered again, among the first k; what is new -/
def againTo (m : MQ) (g : MG) (k : Nat) : List Nat := ((List.range k).filter (triedB g.items)).filter (candB m g)
def newTo (m : MQ) (g : MG) (k : Nat) : List Nat := ((List.range k).filter (freshB g.items)).filter (candB m g)

theorem takeV_full {m : MQ} {start n : Int} {st : RS} (h : n ≤ st.out.length) (l : List Nat) : takeV m start n l st = st := by
  cases l with
  | nil => rfl
  | cons v r => simp [takeV, h]
theorem visit_items {m : MQ} {start : Int} {st : RS} {v j : Nat} (h : j ≠ v) : (visit m start st v).items[j]? = st.items[j]? := by
  unfold visit
  cases hx : st.items[v]? with
  | none => rfl
  | some x =>
    simp only [recvOne]
    have hv : ¬ v = j := fun e => h e.symm
    cases passed m start v x
    · cases decide (m.c.d ≤ x.tries)
      · simp [hv]
      · simp [hv]
    · rfl

theorem freshTo_filter (l : List It) : ∀ k, freshTo l k = (List.range k).filter (freshB l)
  | 0 => rfl
  | k + 1 => by
    have ih := freshTo_filter l k
    rw [List.range_succ, List.filter_append, ← ih, freshTo]
    cases hx : l[k]? with
    | none => simp [freshB, hx]
    | some x => by_cases h : x.tries = 0 <;> simp [freshB, hx, h]

theorem run_fresh {m : MQ} {start n : Int} {fr : List Nat} : ∀ (f j : Nat) (st : RS), f = fr.length - j → recvRun m start fr n f (m.bodies.length + j) st = takeV m start n (fr.drop j) st
  | 0, j, st, h => by
    rw [List.drop_eq_nil_of_le (by omega)]
    rfl
  | f + 1, j, st, h => by
    have hj : j < fr.length := by omega
    rw [List.drop_eq_getElem_cons hj]
    unfold recvRun takeV
    cases decide (n ≤ st.out.length)
    · simp only [cond_false]
      have ih := run_fresh (m := m) (start := start) (n := n) (fr := fr) f (j + 1) (visit m start st fr[j]) (by omega)
      rw [← ih, Nat.add_assoc]
      congr 1
      have hk : ¬ m.bodies.length + j < m.bodies.length := by omega
      simp only [recvStep, visit, hk, decide_false, cond_false, Nat.add_sub_cancel_left, List.getElem?_eq_getElem hj]
      cases st.items[fr[j]]? <;> rfl
    · rfl

theorem run_again {m : MQ} {start n : Int} {fr : List Nat} {items : List It} (hl : items.length = m.bodies.length) : ∀ (d k : Nat) (st : RS), k + d = m.bodies.length → (∀ j, k ≤ j → st.items[j]? = items[j]?) →
    recvRun m start fr n (d + fr.length) k st = takeV m start n ((List.range' k d).filter (triedB items) ++ fr) st
  | 0, k, st, hk, _ => by
    have := run_fresh (m := m) (start := start) (n := n) (fr := fr) fr.length 0 st (by omega)
    have hk2 : k = m.bodies.length := by omega
    subst hk2
    simpa using this
  | d + 1, k, st, hk, hst => by
    obtain ⟨x, hx⟩ : ∃ x, items[k]? = some x := ⟨_, List.getElem?_eq_getElem (by omega)⟩
    have hsx : st.items[k]? = some x := (hst k (Nat.le_refl _)).trans hx
    rw [show d + 1 + fr.length = (d + fr.length) + 1 by omega, List.range'_succ]
    unfold recvRun
    by_cases hf : n ≤ st.out.length
    · rw [takeV_full hf]
      simp [hf]
    · simp only [hf, decide_false, cond_false]
      have hlt : k < m.bodies.length := by omega
      by_cases ht : x.tries = 0
      · have e1 : recvStep m start fr st k = st := by simp [recvStep, hlt, hsx, ht]
        rw [e1, run_again hl d (k + 1) st (by omega) (fun j hj => hst j (by omega))]
        simp [triedB, hx, ht]
      · have e1 : recvStep m start fr st k = visit m start st k := by simp [recvStep, visit, hlt, hsx, ht]
        rw [e1, run_again hl d (k + 1) _ (by omega) (fun j hj => (visit_items (by omega)).trans (hst j (by omega)))]
        have e2 : (k :: List.range' (k + 1) d).filter (triedB items) = k :: (List.range' (k + 1) d).filter (triedB items) := by simp [triedB, hx, ht]
        rw [e2]
        simp [takeV, hf]

theorem takeV_cand {m : MQ} {g : MG} {n : Int} : ∀ (l : List Nat) (st : RS), l.Nodup → (∀ v ∈ l, st.items[v]? = g.items[v]?) → takeV m g.start n l st = takeV m g.start n (l.filter (candB m g)) st
  | [], _, _, _ => rfl
  | v :: r, st, hn, hst => by
    have hv := hst v (by simp)
    obtain ⟨hn1, hn2⟩ := List.nodup_cons.1 hn
    by_cases hf : n ≤ st.out.length
    · rw [takeV_full hf, takeV_full hf]
    · cases hc : candB m g v with
      | true =>
        rw [List.filter_cons_of_pos hc]
        simp only [takeV, hf, decide_false, cond_false]
        exact takeV_cand r _ hn2 (fun j hj => (visit_items (fun e => hn1 (by rw [← e]; exact hj))).trans (hst j (by simp [hj])))
      | false =>
        rw [List.filter_cons_of_neg (by simp [hc])]
        have e : visit m g.start st v = st := by
          unfold visit
          rw [hv]
          unfold candB at hc
          cases hx : g.items[v]? with
          | none => rfl
          | some x =>
            rw [hx] at hc
            simp only [Bool.not_eq_false'] at hc
            simp [recvOne, hc]
        simp only [takeV, hf, decide_false, cond_false, e]
        exact takeV_cand r st hn2 (fun j hj => hst j (by simp [hj]))

/-- what the walk is over: in their order, none twice, each may be delivered -/
theorem cands_nodup (_m : MQ) (g : MG) (k : Nat) : ((List.range k).filter (triedB g.items) ++ (List.range k).filter (freshB g.items)).Nodup := by
  refine List.nodup_append.2 ⟨List.nodup_range.filter _, List.nodup_range.filter _, fun a ha b hb e => ?_⟩
  subst e
  have h1 := (List.mem_filter.1 ha).2
  have h2 := (List.mem_filter.1 hb).2
  unfold triedB at h1
  unfold freshB at h2
  cases hx : g.items[a]? with
  | none => rw [hx] at h1; cases h1
  | some x =>
    rw [hx] at h1 h2
    simp at h1 h2
    exact h1 h2

theorem recvAll_take {m : MQ} {g : MG} {n : Int} (hl : g.items.length = m.bodies.length) :
    recvAll m g n = takeV m g.start n (againTo m g m.bodies.length ++ newTo m g m.bodies.length) ⟨g.items, g.dead, m.changes, []⟩ := by
  unfold recvAll
  rw [freshTo_filter, hl, run_again hl m.bodies.length 0 _ (by omega) (fun _ _ => rfl), takeV_cand _ _ ?_ (fun _ _ => rfl)]
  · rw [List.filter_append, ← List.range_eq_range']
    rfl
  · rw [← List.range_eq_range']
    exact cands_nodup m g _
theorem take_nodup (m : MQ) (g : MG) (k : Nat) : (againTo m g k ++ newTo m g k).Nodup := by
  rw [againTo, newTo, ← List.filter_append]
  exact (cands_nodup m g k).filter _
theorem take_cand {m : MQ} {g : MG} {k v : Nat} (h : v ∈ againTo m g k ++ newTo m g k) : ∃ x, g.items[v]? = some x ∧ passed m g.start v x = false := by
  rw [againTo, newTo, ← List.filter_append] at h
  have h1 := (List.mem_filter.1 h).2
  unfold candB at h1
  cases hx : g.items[v]? with
  | none => rw [hx] at h1; cases h1
  | some x =>
    rw [hx] at h1
    exact ⟨x, rfl, by simpa using h1⟩

theorem cands_few {c : Nat → Bool} {a : Nat} (h : ∀ v, v < a → c v = false) : ∀ k, ((List.range k).filter c).length ≤ k - a
  | 0 => by simp
  | k + 1 => by
    have ih := cands_few h k
    rw [List.range_succ, List.filter_append, List.length_append]
    by_cases hk : k < a
    · simp [h k hk]; omega
    · have : ([k].filter c).length ≤ 1 := List.length_filter_le _ _
      omega
theorem candB_low {m : MQ} {g : MG} {v : Nat} (h : (v : Int) < m.floor ∨ (v : Int) < g.start) : candB m g v = false := by
  unfold candB
  cases g.items[v]? with
  | none => rfl
  | some x => rcases h with h | h <;> simp [passed, h]
theorem againTo_few {m : MQ} {g : MG} {k a : Nat} (h : ∀ v, v < a → candB m g v = false) : (againTo m g k).length ≤ k - a := by
  rw [againTo, List.filter_filter]
  exact cands_few (fun v hv => by simp [h v hv]) k
theorem newTo_few {m : MQ} {g : MG} {k a : Nat} (h : ∀ v, v < a → candB m g v = false) : (newTo m g k).length ≤ k - a := by
  rw [newTo, List.filter_filter]
  exact cands_few (fun v hv => by simp [h v hv]) k
theorem againTo_low {m : MQ} {g : MG} {a : Nat} (h : ∀ v, v < a → candB m g v = false) : againTo m g a = [] := List.eq_nil_of_length_eq_zero (by have := againTo_few (k := a) h; omega)
theorem newTo_low {m : MQ} {g : MG} {a : Nat} (h : ∀ v, v < a → candB m g v = false) : newTo m g a = [] := List.eq_nil_of_length_eq_zero (by have := newTo_few (k := a) h; omega)

theorem againTo_skip {m : MQ} {g : MG} {k : Nat} (h : candB m g k = false) : againTo m g (k + 1) = againTo m g k := by
  simp only [againTo, List.filter_filter, List.range_succ, List.filter_append]
  simp [h]
theorem newTo_skip {m : MQ} {g : MG} {k : Nat} (h : candB m g k = false) : newTo m g (k + 1) = newTo m g k := by
  simp only [newTo, List.filter_filter, List.range_succ, List.filter_append]
  simp [h]
theorem againTo_yes {m : MQ} {g : MG} {k : Nat} {x : It} (h : candB m g k = true) (hx : g.items[k]? = some x) (ht : x.tries ≠ 0) : againTo m g (k + 1) = againTo m g k ++ [k] ∧ newTo m g (k + 1) = newTo m g k := by
  simp only [againTo, newTo, List.filter_filter, List.range_succ, List.filter_append]
  simp [h, triedB, freshB, hx, ht]
theorem newTo_yes {m : MQ} {g : MG} {k : Nat} {x : It} (h : candB m g k = true) (hx : g.items[k]? = some x) (ht : x.tries = 0) : againTo m g (k + 1) = againTo m g k ∧ newTo m g (k + 1) = newTo m g k ++ [k] := by
  simp only [againTo, newTo, List.filter_filter, List.range_succ, List.filter_append]
  simp [h, triedB, freshB, hx, ht]

/-- may it be delivered, in the program's words -/
theorem cand_words {m : MQ} {g : MG} {p : PG} {k : Nat} {x : It} (hr : RelG m g p) (hx : g.items[k]? = some x) (h1 : m.floor ≤ k) (h2 : g.start ≤ k) : candB m g k = !((p.wt k).isSome || hasB p.done k) := by
  have q1 : ¬ (k : Int) < m.floor := by omega
  have q2 : ¬ (k : Int) < g.start := by omega
  rw [hr.wt, hr.done, doneB_at, itemAt_nat, hx]
  simp only [candB, hx, passed, q1, q2, decide_false, Bool.false_or, waitOf]
  by_cases h3 : 0 < x.done <;> by_cases h4 : m.time < x.till <;> by_cases h5 : m.time < x.after <;> simp [h3, h4, h5]

end Go.Proofs.YtockkceclkcgbaaGreatDoor

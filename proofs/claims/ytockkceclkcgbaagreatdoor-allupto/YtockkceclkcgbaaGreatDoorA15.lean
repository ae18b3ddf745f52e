/- Sets of ranges: two that have the same numbers are one; the ranges of the messages that are done are such a set; the first one that is not done. -/
import Derived.Test.YtockkceclkcgbaaGreatDoorA14
import Derived.Test.YtockkceclkcgbaaGreatDoorA06
import Derived.Test.YtockkceclkcgbaaGreatDoorA07
namespace Go.Proofs.YtockkceclkcgbaaGreatDoor

theorem inL_gt : ∀ (rs : RL) (m n : Int), setR m rs → inL rs n → m < n
  | [], _, _, _, h => by obtain ⟨r, hr, _⟩ := h; cases hr
  | r :: t, m, n, hs, h => by
    obtain ⟨s1, s2, s3, s4⟩ := hs
    rcases (inL_cons r t n).1 h with h | h
    · omega
    · have := inL_gt t _ n s4 h; omega
theorem inL_none {n : Int} (h : inL [] n) : False := by obtain ⟨r, hr, _⟩ := h; cases hr

/-- two sets with the same numbers are one -/
theorem setR_one : ∀ (A B : RL) (m : Int), setR m A → setR m B → (∀ n, inL A n ↔ inL B n) → A = B
  | [], [], _, _, _, _ => rfl
  | [], b :: t, _, _, hB, h => (inL_none ((h b.1).2 ((inL_cons b t b.1).2 (.inl ⟨Int.le_refl _, hB.2.1⟩)))).elim
  | a :: s, [], _, hA, _, h => (inL_none ((h a.1).1 ((inL_cons a s a.1).2 (.inl ⟨Int.le_refl _, hA.2.1⟩)))).elim
  | a :: s, b :: t, m, hA, hB, h => by
    obtain ⟨a1, a2, a3, a4⟩ := hA
    obtain ⟨b1, b2, b3, b4⟩ := hB
    have h1 := (inL_cons b t a.1).1 ((h a.1).1 ((inL_cons a s a.1).2 (.inl ⟨Int.le_refl _, a2⟩)))
    have h2 := (inL_cons a s b.1).1 ((h b.1).2 ((inL_cons b t b.1).2 (.inl ⟨Int.le_refl _, b2⟩)))
    have l1 : b.1 ≤ a.1 := by
      rcases h1 with h1 | h1
      · omega
      · have := inL_gt t _ _ b4 h1; omega
    have l2 : a.1 ≤ b.1 := by
      rcases h2 with h2 | h2
      · omega
      · have := inL_gt s _ _ a4 h2; omega
    have e1 : a.1 = b.1 := by omega
    have e2 : a.2 = b.2 := by
      rcases Int.lt_trichotomy a.2 b.2 with hlt | heq | hgt
      · exfalso
        rcases (inL_cons a s (a.2 + 1)).1 ((h (a.2 + 1)).2 ((inL_cons b t (a.2 + 1)).2 (.inl (by omega)))) with q | q
        · omega
        · have := inL_gt s _ _ a4 q; omega
      · exact heq
      · exfalso
        rcases (inL_cons b t (b.2 + 1)).1 ((h (b.2 + 1)).1 ((inL_cons a s (b.2 + 1)).2 (.inl (by omega)))) with q | q
        · omega
        · have := inL_gt t _ _ b4 q; omega
    have et : s = t := setR_one s t (a.2 + 1) a4 (by rw [e2]; exact b4) (fun n => by
      constructor
      · intro q
        have q1 := inL_gt s _ _ a4 q
        rcases (inL_cons b t n).1 ((h n).1 ((inL_cons a s n).2 (.inr q))) with q2 | q2
        · omega
        · exact q2
      · intro q
        have q1 := inL_gt t _ _ b4 q
        rcases (inL_cons a s n).1 ((h n).2 ((inL_cons b t n).2 (.inr q))) with q2 | q2
        · omega
        · exact q2)
    rw [et, Prod.ext e1 e2]

theorem setB_one {A B : RL} (hA : setB A = true) (hB : setB B = true) (h : ∀ n, hasB A n = hasB B n) : A = B :=
  setR_one A B (-1) ((setB_setR A).1 hA) ((setB_setR B).1 hB) (fun n => by rw [← hasB_inL, ← hasB_inL, h n])

theorem setR_snoc (r : Int × Int) : ∀ (a : RL) (m : Int), setR m (a ++ [r]) ↔ setR m a ∧ m < r.1 ∧ (∀ x ∈ a, x.2 + 1 < r.1) ∧ r.1 ≤ r.2 ∧ r.2 ≤ 1099511627776
  | [], m => by simp [setR]
  | x :: a, m => by
    have ih := setR_snoc r a (x.2 + 1)
    simp only [List.cons_append, setR, ih]
    constructor
    · rintro ⟨h1, h2, h3, h4, h5, h6, h7⟩
      refine ⟨⟨h1, h2, h3, h4⟩, by omega, fun y hy => ?_, h7⟩
      rcases List.mem_cons.1 hy with rfl | hy
      · exact h5
      · exact h6 y hy
    · rintro ⟨⟨h1, h2, h3, h4⟩, h5, h6, h7⟩
      exact ⟨h1, h2, h3, h4, h6 x (by simp), fun y hy => h6 y (by simp [hy]), h7⟩
theorem inL_snoc (a : RL) (r : Int × Int) (n : Int) : inL (a ++ [r]) n ↔ inL a n ∨ (r.1 ≤ n ∧ n ≤ r.2) := by
  simp only [inL, List.mem_append, List.mem_singleton]
  constructor
  · rintro ⟨x, hx | rfl, h⟩
    · exact .inl ⟨x, hx, h⟩
    · exact .inr h
  · rintro (⟨x, hx, h⟩ | h)
    · exact ⟨x, .inl hx, h⟩
    · exact ⟨r, .inr rfl, h⟩

/-- the item of a number -/
def itemAt (l : List It) (n : Int) : Option It := bif decide (0 ≤ n) then l[n.toNat]? else none
theorem itemAt_nat (l : List It) (n : Nat) : itemAt l n = l[n]? := by simp [itemAt]
theorem itemAt_some {l : List It} {n : Int} {x : It} (h : itemAt l n = some x) : 0 ≤ n ∧ l[n.toNat]? = some x := by
  unfold itemAt at h
  by_cases h0 : 0 ≤ n
  · simpa [h0] using h
  · simp [h0] at h
theorem itemAt_set {l : List It} {n : Nat} (hn : n < l.length) (y : It) (j : Int) : itemAt (l.set n y) j = if j = n then some y else itemAt l j := by
  unfold itemAt
  by_cases h0 : 0 ≤ j
  · simp only [h0, decide_true, cond_true, List.getElem?_set]
    by_cases hj : j = n
    · subst hj
      simp [hn]
    · have : ¬ n = j.toNat := by omega
      simp [hj, this]
  · have : ¬ j = n := by omega
    simp [h0, this]
def doneB (l : List It) (n : Int) : Bool := match itemAt l n with
  | some x => decide (0 < x.done)
  | none => false
theorem doneB_iff {l : List It} {n : Int} : doneB l n = true ↔ ∃ (j : Nat) (x : It), n = j ∧ l[j]? = some x ∧ 0 < x.done := by
  unfold doneB
  constructor
  · intro h
    cases hx : itemAt l n with
    | none => rw [hx] at h; cases h
    | some x =>
      rw [hx] at h
      obtain ⟨h0, h1⟩ := itemAt_some hx
      exact ⟨n.toNat, x, by omega, h1, by simpa using h⟩
  · rintro ⟨j, x, rfl, hx, h⟩
    simp [itemAt_nat, hx, h]

theorem prevDone_succ {l : List It} {k : Nat} {x : It} (hx : l[k]? = some x) : prevDone l (k + 1) = decide (0 < x.done) := by simp [prevDone, hx]

/-- what is done among the first k -/
theorem doneTo_inv (l : List It) (h0 : ∀ x ∈ l, 0 ≤ x.done) (hl : l.length ≤ 1099511627776) : ∀ k, k ≤ l.length →
    setR (-1) (doneTo l k) ∧ (∀ r ∈ doneTo l k, r.2 < k) ∧ (prevDone l k = false → ∀ r ∈ doneTo l k, r.2 + 1 < k) ∧ ∀ n, inL (doneTo l k) n ↔ n < k ∧ doneB l n = true
  | 0, _ => ⟨trivial, by simp [doneTo], by simp [doneTo], fun n => ⟨fun h => (inL_none h).elim, fun h => by
      obtain ⟨j, _, rfl, _⟩ := doneB_iff.1 h.2
      have := h.1
      omega⟩⟩
  | k + 1, hk => by
    obtain ⟨i1, i2, i3, i4⟩ := doneTo_inv l h0 hl k (by omega)
    obtain ⟨x, hx⟩ : ∃ x, l[k]? = some x := ⟨_, List.getElem?_eq_getElem (by omega)⟩
    have hx0 := h0 x (List.mem_of_getElem? hx)
    have hkd : doneB l (k : Int) = decide (0 < x.done) := by simp [doneB, itemAt_nat, hx]
    have hsplit : ∀ n : Int, (n < ((k + 1 : Nat) : Int) ∧ doneB l n = true) ↔ (n < k ∧ doneB l n = true) ∨ (n = k ∧ 0 < x.done) := fun n => by
      constructor
      · rintro ⟨q1, q2⟩
        by_cases hn : n = k
        · subst hn
          rw [hkd] at q2
          exact .inr ⟨rfl, by simpa using q2⟩
        · exact .inl ⟨by omega, q2⟩
      · rintro (⟨q1, q2⟩ | ⟨rfl, q2⟩)
        · exact ⟨by omega, q2⟩
        · exact ⟨by omega, by rw [hkd]; simpa using q2⟩
    by_cases hd : x.done = 0
    · rw [doneTo_skip hx hd]
      refine ⟨i1, fun r hr => by have := i2 r hr; omega, fun _ r hr => by have := i2 r hr; omega, fun n => ?_⟩
      rw [hsplit n, i4 n]
      constructor
      · exact .inl
      · rintro (h | h)
        · exact h
        · omega
    · have hpos : 0 < x.done := by omega
      have hpn : prevDone l (k + 1) = true := by rw [prevDone_succ hx]; simpa using hpos
      cases hp : prevDone l k with
      | false =>
        rw [doneTo_new hx hd hp]
        refine ⟨(setR_snoc _ _ _).2 ⟨i1, by simp; omega, fun r hr => i3 hp r hr, by simp, by simp; omega⟩, fun r hr => ?_, fun h => (by rw [hpn] at h; cases h), fun n => ?_⟩
        · rcases List.mem_append.1 hr with hr | hr
          · have := i2 r hr; omega
          · simp at hr; subst hr; simp; omega
        · rw [inL_snoc, hsplit n, i4 n]
          constructor
          · rintro (h | h)
            · exact .inl h
            · exact .inr ⟨by simp at h; omega, hpos⟩
          · rintro (h | h)
            · exact .inl h
            · exact .inr (by simp; omega)
      | true =>
        obtain ⟨a, r, e1, e2⟩ := doneTo_more hx hd hp
        rw [e1] at i1 i2 i4
        rw [e2]
        obtain ⟨s1, s2, s3, s4, s5⟩ := (setR_snoc r a (-1)).1 i1
        have hrk : r.2 = (k : Int) - 1 := by
          have hr2 := i2 r (by simp)
          cases k with
          | zero => simp [prevDone] at hp
          | succ j =>
            have hj : doneB l (j : Int) = true := by
              simp only [prevDone] at hp
              cases hy : l[j]? with
              | none => rw [hy] at hp; cases hp
              | some y => rw [hy] at hp; simp [doneB, itemAt_nat, hy]; simpa using hp
            rcases (inL_snoc a r j).1 ((i4 j).2 ⟨by omega, hj⟩) with ⟨z, hz, z1, z2⟩ | h
            · have := s3 z hz; omega
            · omega
        refine ⟨(setR_snoc _ _ _).2 ⟨s1, s2, s3, by simp; omega, by simp; omega⟩, fun z hz => ?_, fun h => (by rw [hpn] at h; cases h), fun n => ?_⟩
        · rcases List.mem_append.1 hz with hz | hz
          · have := i2 z (by simp [hz]); omega
          · simp at hz; subst hz; simp; omega
        · rw [inL_snoc, hsplit n]
          have i4n := i4 n
          rw [inL_snoc] at i4n
          constructor
          · rintro (h | h)
            · exact .inl (i4n.1 (.inl h))
            · by_cases hn : n = k
              · exact .inr ⟨hn, hpos⟩
              · exact .inl (i4n.1 (.inr (by simp at h; omega)))
          · rintro (h | h)
            · rcases i4n.2 h with h | h
              · exact .inl h
              · exact .inr (by simp; omega)
            · exact .inr (by simp; omega)

/-- a set that has just the numbers of what is done is the document's list -/
theorem set_is_done {L : RL} {l : List It} (h0 : ∀ x ∈ l, 0 ≤ x.done) (hl : l.length ≤ 1099511627776) (hs : setB L = true) (hd : ∀ n, hasB L n = doneB l n) : L = doneTo l l.length := by
  obtain ⟨i1, _, _, i4⟩ := doneTo_inv l h0 hl l.length (Nat.le_refl _)
  refine setR_one L _ (-1) ((setB_setR L).1 hs) i1 (fun n => ?_)
  rw [← hasB_inL, hd n, i4 n]
  constructor
  · intro h
    obtain ⟨j, x, rfl, hx, _⟩ := doneB_iff.1 h
    have := (List.getElem?_eq_some_iff.1 hx).1
    exact ⟨by omega, h⟩
  · exact fun h => h.2

theorem markAt_not {l : List It} : ∀ (f n : Nat), l.length ≤ n + f → doneB l (markAt l n : Nat) = false ∧ ∀ j : Nat, n ≤ j → j < markAt l n → doneB l j = true
  | 0, n, h => by
    rw [markAt_end (by omega)]
    refine ⟨?_, fun j h1 h2 => by omega⟩
    cases hd : doneB l (n : Int) with
    | false => rfl
    | true =>
      obtain ⟨j, x, e, hx, _⟩ := doneB_iff.1 hd
      have := (List.getElem?_eq_some_iff.1 hx).1
      omega
  | f + 1, n, h => by
    rcases Nat.lt_or_ge n l.length with hlt | hge
    · obtain ⟨x, hx⟩ : ∃ x, l[n]? = some x := ⟨_, List.getElem?_eq_getElem hlt⟩
      by_cases hd : 0 < x.done
      · obtain ⟨i1, i2⟩ := markAt_not (l := l) f (n + 1) (by omega)
        rw [markAt_on hx hd]
        refine ⟨i1, fun j h1 h2 => ?_⟩
        by_cases hj : j = n
        · subst hj; simp [doneB, itemAt_nat, hx, hd]
        · exact i2 j (by omega) h2
      · rw [markAt_stop hx (by omega)]
        exact ⟨by simp [doneB, itemAt_nat, hx, hd], fun j h1 h2 => by omega⟩
    · rw [markAt_end (by omega)]
      refine ⟨?_, fun j h1 h2 => by omega⟩
      cases hd : doneB l (n : Int) with
      | false => rfl
      | true =>
        obtain ⟨j, x, e, hx, _⟩ := doneB_iff.1 hd
        have := (List.getElem?_eq_some_iff.1 hx).1
        omega

/-- the gap of the set is the mark -/
theorem gap_mark {L : RL} {l : List It} {n : Nat} (hs : setB L = true) (hd : ∀ n, hasB L n = doneB l n) : gapI L n = (markAt l n : Nat) := by
  obtain ⟨g1, g2, g3⟩ := gap_spec hs n
  obtain ⟨m1, m2⟩ := markAt_not (l := l) l.length n (by omega)
  have mle := (markAt_le (l := l) (n := n)).1
  rcases Int.lt_trichotomy (gapI L n) (markAt l n : Nat) with h | h | h
  · exfalso
    obtain ⟨j, hj⟩ : ∃ j : Nat, gapI L n = j := ⟨(gapI L n).toNat, by omega⟩
    rw [hd, hj, m2 j (by omega) (by omega)] at g2
    cases g2
  · exact h
  · exfalso
    have := g3 (markAt l n : Nat) (by omega) h
    rw [hd, m1] at this
    cases this

end Go.Proofs.YtockkceclkcgbaaGreatDoor

/- What the program keeps of a group, as plain mathematics, held against the document's group: each call keeps the two alike. -/
namespace Go.Proofs.YtockkceclkcgbaaGreatDoor
open Go.RowKit

/-- What the program keeps of a group: its start, the ranges of what is done, the dead, how often each message was delivered, what each waits for. -/
structure PG where
  start : Int
  done : RL
  dead : List Dl
  tr : Int → Int
  wt : Int → Option (Int × Bool)

def triesOf : Option It → Int
  | some x => bif decide (0 < x.done) then 0 else x.tries
  | none => 0
def waitOf (t : Int) : Option It → Option (Int × Bool)
  | some x => bif decide (0 < x.done) then none else bif decide (t < x.till) then some (x.till, true) else bif decide (t < x.after) then some (x.after, false) else none
  | none => none

/-- The program's group tells the document's. -/
structure RelG (m : MQ) (g : MG) (p : PG) : Prop where
  start : p.start = g.start
  set : setB p.done = true
  done : ∀ n, hasB p.done n = doneB g.items n
  dead : p.dead = g.dead.map (deadOf m g)
  tr : ∀ n, p.tr n = triesOf (itemAt g.items n)
  wt : ∀ n, p.wt n = waitOf m.time (itemAt g.items n)

/-- What holds of every group. -/
structure InvG (m : MQ) (g : MG) : Prop where
  done : ∀ x ∈ g.items, 0 ≤ x.done
  tries : ∀ x ∈ g.items, 0 ≤ x.tries ∧ x.tries ≤ m.c.d
  excl : ∀ x ∈ g.items, m.time < x.till → x.after ≤ m.time
  dead : ∀ n ∈ g.dead, doneB g.items n = true

def upd {α : Type} (f : Int → α) (n : Int) (v : α) : Int → α := fun j => if j = n then v else f j

def finishP (p : PG) (n : Int) : PG := { p with done := addTo p.done n n, tr := upd p.tr n 0, wt := upd p.wt n none }
def leaseP (p : PG) (n u : Int) : PG := { p with wt := upd p.wt n (some (u, true)) }
def delayP (p : PG) (n u : Int) : PG := { p with wt := upd p.wt n (some (u, false)) }
def countP (p : PG) (n : Int) : PG := { p with tr := upd p.tr n (wrap64 (p.tr n + 1)) }
def wakeP (p : PG) (t : Int) : PG := { p with wt := fun j => (p.wt j).filter (fun u => decide (t < u.1)) }
def buryP (p : PG) (d : Dl) : PG := { p with dead := p.dead ++ [d] }
def newP (s : Int) : PG := ⟨s, [], [], fun _ => 0, fun _ => none⟩

theorem doneB_at (l : List It) (n : Int) : doneB l n = match itemAt l n with | some x => decide (0 < x.done) | none => false := rfl
theorem isR_one {n : Nat} (h : n < 400) : isR (n : Int) (n : Int) = true := by simp [isR]; omega

theorem doneB_set {l : List It} {n : Nat} {y : It} (hn : n < l.length) (j : Int) : doneB (l.set n y) j = if j = n then decide (0 < y.done) else doneB l j := by
  unfold doneB
  rw [itemAt_set hn]
  by_cases h : j = n <;> simp [h]

theorem mem_set {l : List It} {n : Nat} {y : It} {P : It → Prop} (h : ∀ x ∈ l, P x) (hy : P y) : ∀ x ∈ l.set n y, P x := by
  intro x hx
  rcases List.mem_or_eq_of_mem_set hx with h1 | h1
  · exact h x h1
  · rw [h1]; exact hy

theorem getD_set_dead {m : MQ} {g : MG} {n : Nat} {x y : It} {d : List Nat} {ms : MQ} (hm : ms.bodies = m.bodies) (hx : g.items[n]? = some x) (hd : y.tries = x.tries ∨ ∀ k ∈ d, k ≠ n) :
    d.map (deadOf ms { g with items := g.items.set n y }) = d.map (deadOf m g) := by
  apply List.map_congr_left
  intro k hk
  simp only [deadOf, hm, Dl.mk.injEq, true_and, and_true]
  by_cases hkn : k = n
  · subst hkn
    obtain ⟨hlt, hex⟩ := List.getElem?_eq_some_iff.1 hx
    rcases hd with hd | hd
    · simp [List.getD, hex, hd, hlt]
    · exact absurd rfl (hd k hk)
  · have : ¬ n = k := fun e => hkn e.symm
    simp [List.getD, this]

/-- a message is done with -/
theorem rel_finish {m ms : MQ} {g : MG} {p : PG} {n : Nat} {x : It} {d : Int} (hr : RelG m g p) (hx : g.items[n]? = some x) (hn : n < 400) (hd : 0 < d) (ht : ms.time = m.time) (hb : ms.bodies = m.bodies) :
    RelG ms { g with items := g.items.set n { x with done := d } } (finishP p n) := by
  have hlt := (List.getElem?_eq_some_iff.1 hx).1
  refine ⟨hr.start, addTo_setB hr.set (isR_one hn), fun j => ?_, ?_, fun j => ?_, fun j => ?_⟩
  · show hasB (addTo p.done n n) j = _
    rw [addTo_has j hr.set (isR_one hn), hr.done j, doneB_set hlt]
    by_cases hj : j = n
    · subst hj; simp [withinB, hd]
    · have : withinB (n : Int) n j = false := by simp [withinB]; omega
      simp [hj, this]
  · refine hr.dead.trans (Eq.symm ?_)
    apply getD_set_dead hb hx
    exact .inl rfl
  · show upd p.tr n 0 j = _
    rw [itemAt_set hlt]
    by_cases hj : j = n <;> simp [upd, hj, triesOf, hd, hr.tr]
  · show upd p.wt n none j = _
    rw [itemAt_set hlt, ht]
    by_cases hj : j = n <;> simp [upd, hj, waitOf, hd, hr.wt]
theorem inv_set {m ms : MQ} {g : MG} {n : Nat} {x y : It} (hi : InvG m g) (hx : g.items[n]? = some x) (h0 : 0 ≤ y.done) (h1 : 0 ≤ y.tries ∧ y.tries ≤ m.c.d) (h2 : m.time < y.till → y.after ≤ m.time) (h3 : 0 < x.done → 0 < y.done) (ht : ms.time = m.time) (hc : ms.c = m.c) :
    InvG ms { g with items := g.items.set n y } := by
  have hlt := (List.getElem?_eq_some_iff.1 hx).1
  refine ⟨mem_set hi.done h0, ?_, ?_, fun k hk => ?_⟩
  · rw [hc]; exact mem_set hi.tries h1
  · rw [ht]; exact mem_set hi.excl h2
  · rw [doneB_set hlt]
    have := hi.dead k hk
    by_cases hkn : (k : Int) = n
    · have e : k = n := by omega
      subst e
      rw [doneB_at, itemAt_nat, hx] at this
      simp at this
      simp [h3 this]
    · simp [hkn, this]

theorem notDone {m : MQ} {g : MG} {n : Nat} {x : It} (hi : InvG m g) (hx : g.items[n]? = some x) (hd : ¬ 0 < x.done) : ∀ k ∈ g.dead, k ≠ n := by
  intro k hk e
  subst e
  have := hi.dead k hk
  rw [doneB_at, itemAt_nat, hx] at this
  simp at this
  exact hd this

/-- a message is delivered once more -/
theorem rel_deliver {m ms : MQ} {g : MG} {p : PG} {n : Nat} {x : It} {u : Int} (hr : RelG m g p) (hi : InvG m g) (hx : g.items[n]? = some x) (hd : ¬ 0 < x.done) (hu : m.time < u) (ht : ms.time = m.time) (hb : ms.bodies = m.bodies) :
    RelG ms { g with items := g.items.set n { x with tries := wrap64 (x.tries + 1), till := u } } (leaseP (countP p n) n u) := by
  have hlt := (List.getElem?_eq_some_iff.1 hx).1
  refine ⟨hr.start, hr.set, fun j => ?_, ?_, fun j => ?_, fun j => ?_⟩
  · show hasB p.done j = _
    rw [hr.done j, doneB_set hlt]
    by_cases hj : j = n
    · subst hj; simp [doneB_at, itemAt_nat, hx]
    · simp [hj]
  · exact hr.dead.trans (getD_set_dead hb hx (.inr (notDone hi hx hd))).symm
  · show upd p.tr n (wrap64 (p.tr n + 1)) j = _
    rw [itemAt_set hlt]
    by_cases hj : j = n
    · subst hj; simp [upd, triesOf, hd, hr.tr, itemAt_nat, hx]
    · simp [upd, hj, hr.tr]
  · show upd p.wt n (some (u, true)) j = _
    rw [itemAt_set hlt, ht]
    by_cases hj : j = n
    · subst hj; simp [upd, waitOf, hd, hu]
    · simp [upd, hj, hr.wt]

/-- a lease is made longer -/
theorem rel_extend {m ms : MQ} {g : MG} {p : PG} {n : Nat} {x : It} {u : Int} (hr : RelG m g p) (hx : g.items[n]? = some x) (hd : ¬ 0 < x.done) (hu : m.time < u) (ht : ms.time = m.time) (hb : ms.bodies = m.bodies) :
    RelG ms { g with items := g.items.set n { x with till := u } } (leaseP p n u) := by
  have hlt := (List.getElem?_eq_some_iff.1 hx).1
  refine ⟨hr.start, hr.set, fun j => ?_, ?_, fun j => ?_, fun j => ?_⟩
  · show hasB p.done j = _
    rw [hr.done j, doneB_set hlt]
    by_cases hj : j = n
    · subst hj; simp [doneB_at, itemAt_nat, hx]
    · simp [hj]
  · refine hr.dead.trans (Eq.symm ?_)
    apply getD_set_dead hb hx
    exact .inl rfl
  · show p.tr j = _
    rw [itemAt_set hlt, hr.tr j]
    by_cases hj : j = n
    · subst hj; simp [triesOf, hd, itemAt_nat, hx]
    · simp [hj]
  · show upd p.wt n (some (u, true)) j = _
    rw [itemAt_set hlt, ht]
    by_cases hj : j = n
    · subst hj; simp [upd, waitOf, hd, hu]
    · simp [upd, hj, hr.wt]

theorem waitOf_filter (t : Int) (o : Option It) : (waitOf t o).filter (fun u => decide (t < u.1)) = waitOf t o := by
  cases o with
  | none => rfl
  | some x =>
    unfold waitOf
    by_cases h1 : 0 < x.done <;> by_cases h2 : t < x.till <;> by_cases h3 : t < x.after <;> simp [h1, h2, h3]

/-- a message is given back -/
theorem rel_nack {m ms : MQ} {g : MG} {p : PG} {n : Nat} {x : It} {d : Int} (hr : RelG m g p) (hx : g.items[n]? = some x) (hd : ¬ 0 < x.done) (h0 : 0 ≤ m.time) (ht : ms.time = m.time) (hb : ms.bodies = m.bodies) :
    RelG ms { g with items := g.items.set n { x with till := 0, after := m.time + d } } (wakeP (delayP p n (m.time + d)) m.time) := by
  have hlt := (List.getElem?_eq_some_iff.1 hx).1
  refine ⟨hr.start, hr.set, fun j => ?_, ?_, fun j => ?_, fun j => ?_⟩
  · show hasB p.done j = _
    rw [hr.done j, doneB_set hlt]
    by_cases hj : j = n
    · subst hj; simp [doneB_at, itemAt_nat, hx]
    · simp [hj]
  · refine hr.dead.trans (Eq.symm ?_)
    apply getD_set_dead hb hx
    exact .inl rfl
  · show p.tr j = _
    rw [itemAt_set hlt, hr.tr j]
    by_cases hj : j = n
    · subst hj; simp [triesOf, hd, itemAt_nat, hx]
    · simp [hj]
  · show (upd p.wt n (some (m.time + d, false)) j).filter (fun u => decide (m.time < u.1)) = _
    rw [itemAt_set hlt, ht]
    by_cases hj : j = n
    · subst hj
      have h1 : ¬ m.time < 0 := by omega
      by_cases h2 : m.time < m.time + d
      · simp [upd, waitOf, hd, h1, h2]
      · simp [upd, waitOf, hd, h1, h2]
        omega
    · simp only [upd, hj, if_false, hr.wt]
      exact waitOf_filter _ _

/-- time goes by -/
theorem rel_tick {m ms : MQ} {g : MG} {p : PG} {d : Int} (hr : RelG m g p) (hi : InvG m g) (h0 : 0 ≤ d) (ht : ms.time = m.time + d) (hb : ms.bodies = m.bodies) : RelG ms g (wakeP p (m.time + d)) := by
  refine ⟨hr.start, hr.set, hr.done, ?_, hr.tr, fun j => ?_⟩
  · rw [show (wakeP p (m.time + d)).dead = p.dead from rfl, hr.dead]
    apply List.map_congr_left
    intro k _
    simp [deadOf, hb]
  · show (p.wt j).filter (fun u => decide (m.time + d < u.1)) = _
    rw [hr.wt j, ht]
    cases hx : itemAt g.items j with
    | none => rfl
    | some x =>
      have he := hi.excl x (List.mem_of_getElem? (itemAt_some hx).2)
      unfold waitOf
      by_cases h1 : 0 < x.done
      · simp [h1]
      · by_cases h2 : m.time < x.till
        · have h3 := he h2
          by_cases h4 : m.time + d < x.till
          · simp [h1, h2, h4]
          · have h5 : ¬ m.time + d < x.after := by omega
            simp [h1, h2, h4, h5]
            omega
        · have h4 : ¬ m.time + d < x.till := by omega
          by_cases h3 : m.time < x.after
          · by_cases h5 : m.time + d < x.after
            · simp [h1, h2, h3, h4, h5]
            · simp [h1, h2, h3, h4, h5]
              omega
          · have h5 : ¬ m.time + d < x.after := by omega
            simp [h1, h2, h3, h4, h5]
theorem inv_tick {m ms : MQ} {g : MG} {d : Int} (hi : InvG m g) (h0 : 0 ≤ d) (ht : ms.time = m.time + d) (hc : ms.c = m.c) : InvG ms g :=
  ⟨hi.done, by rw [hc]; exact hi.tries, fun x hx h => by rw [ht] at h ⊢; have := hi.excl x hx (by omega); omega, hi.dead⟩

/-- a message more -/
theorem itemAt_snoc {l : List It} {j : Int} : itemAt (l ++ [It.zero]) j = if j = l.length then some It.zero else itemAt l j := by
  unfold itemAt
  by_cases h0 : 0 ≤ j
  · simp only [h0, decide_true, cond_true]
    by_cases hj : j = l.length
    · subst hj; simp
    · simp only [hj, if_false]
      rcases Nat.lt_or_ge j.toNat l.length with h | h
      · rw [List.getElem?_append_left h]
      · rw [List.getElem?_eq_none (by simp; omega), List.getElem?_eq_none h]
  · have : ¬ j = l.length := by omega
    simp [h0, this]
theorem rel_enq {m ms : MQ} {g : MG} {p : PG} {s : ByteArray} (hr : RelG m g p) (hi : InvG m g) (hl : g.items.length = m.bodies.length) (h0 : 0 ≤ m.time) (ht : ms.time = m.time) (hb : ms.bodies = m.bodies ++ [s]) : RelG ms { g with items := g.items ++ [It.zero] } p := by
  refine ⟨hr.start, hr.set, fun j => ?_, ?_, fun j => ?_, fun j => ?_⟩
  · rw [hr.done j, doneB_at, doneB_at]
    show _ = match itemAt (g.items ++ [It.zero]) j with | some x => decide (0 < x.done) | none => false
    rw [itemAt_snoc]
    by_cases hj : j = g.items.length
    · subst hj; simp [itemAt_nat]
    · simp [hj]
  · rw [hr.dead]
    apply List.map_congr_left
    intro k hk
    obtain ⟨j, x, e, hx, _⟩ := doneB_iff.1 (hi.dead k hk)
    have e' : k = j := by omega
    subst e'
    have hlt := (List.getElem?_eq_some_iff.1 hx).1
    simp only [deadOf, hb, List.getD, List.getElem?_append_left hlt, List.getElem?_append_left (show k < m.bodies.length by omega)]
  · rw [hr.tr j]
    show _ = triesOf (itemAt (g.items ++ [It.zero]) j)
    rw [itemAt_snoc]
    by_cases hj : j = g.items.length
    · subst hj; simp [itemAt_nat, triesOf]
    · simp [hj]
  · rw [hr.wt j, ht]
    show _ = waitOf m.time (itemAt (g.items ++ [It.zero]) j)
    rw [itemAt_snoc]
    by_cases hj : j = g.items.length
    · subst hj
      have : ¬ m.time < 0 := by omega
      simp [itemAt_nat, waitOf, this]
    · simp [hj]
theorem inv_enq {m ms : MQ} {g : MG} (hi : InvG m g) (h0 : 0 ≤ m.time) (hd : 0 ≤ m.c.d) (ht : ms.time = m.time) (hc : ms.c = m.c) : InvG ms { g with items := g.items ++ [It.zero] } := by
  have hz : ∀ {P : It → Prop}, (∀ x ∈ g.items, P x) → P It.zero → ∀ x ∈ g.items ++ [It.zero], P x := fun h h1 x hx => by
    rcases List.mem_append.1 hx with h2 | h2
    · exact h x h2
    · simp at h2; rw [h2]; exact h1
  refine ⟨hz hi.done (by simp), ?_, ?_, fun k hk => ?_⟩
  · rw [hc]; exact hz hi.tries ⟨by simp, hd⟩
  · rw [ht]; exact hz hi.excl (fun h => by simp at h ⊢; omega)
  · obtain ⟨j, x, e, hx, hd⟩ := doneB_iff.1 (hi.dead k hk)
    have hlt := (List.getElem?_eq_some_iff.1 hx).1
    exact doneB_iff.2 ⟨j, x, e, by rw [List.getElem?_append_left hlt]; exact hx, hd⟩

/-- a new group -/
theorem itemAt_zeros (n : Nat) (j : Int) : itemAt (List.replicate n It.zero) j = none ∨ itemAt (List.replicate n It.zero) j = some It.zero := by
  unfold itemAt
  by_cases h0 : 0 ≤ j
  · simp only [h0, decide_true, cond_true, List.getElem?_replicate]
    by_cases h1 : j.toNat < n <;> simp [h1]
  · simp [h0]
theorem rel_new {m : MQ} {s : ByteArray} {fr : Int} (h0 : 0 ≤ m.time) : RelG m ⟨s, fr, List.replicate m.bodies.length It.zero, []⟩ (newP fr) := by
  refine ⟨rfl, rfl, fun j => ?_, rfl, fun j => ?_, fun j => ?_⟩
  · rw [doneB_at]
    rcases itemAt_zeros m.bodies.length j with h | h <;> simp [h, newP, hasB]
  · rcases itemAt_zeros m.bodies.length j with h | h <;> simp [h, newP, triesOf]
  · have : ¬ m.time < 0 := by omega
    rcases itemAt_zeros m.bodies.length j with h | h <;> simp [h, newP, waitOf, this]
theorem inv_new {m : MQ} {s : ByteArray} {fr : Int} (h0 : 0 ≤ m.time) (hd : 0 ≤ m.c.d) : InvG m ⟨s, fr, List.replicate m.bodies.length It.zero, []⟩ := by
  have hz : ∀ x ∈ List.replicate m.bodies.length It.zero, x = It.zero := fun x hx => (List.mem_replicate.1 hx).2
  refine ⟨fun x hx => ?_, fun x hx => ?_, fun x hx h => ?_, fun k hk => by cases hk⟩
  · rw [hz x hx]; simp
  · rw [hz x hx]; exact ⟨by simp, hd⟩
  · rw [hz x hx] at h ⊢; simp at h ⊢; omega

/-- what stays of a group where its queue changes elsewhere -/
theorem RelG.same {m ms : MQ} {g : MG} {p : PG} (hr : RelG m g p) (ht : ms.time = m.time) (hb : ms.bodies = m.bodies) : RelG ms g p := by
  refine ⟨hr.start, hr.set, hr.done, ?_, hr.tr, by rw [ht]; exact hr.wt⟩
  rw [hr.dead]
  apply List.map_congr_left
  intro k _
  simp [deadOf, hb]
theorem InvG.same {m ms : MQ} {g : MG} (hi : InvG m g) (ht : ms.time = m.time) (hc : ms.c = m.c) : InvG ms g :=
  ⟨hi.done, by rw [hc]; exact hi.tries, by rw [ht]; exact hi.excl, hi.dead⟩

end Go.Proofs.YtockkceclkcgbaaGreatDoor

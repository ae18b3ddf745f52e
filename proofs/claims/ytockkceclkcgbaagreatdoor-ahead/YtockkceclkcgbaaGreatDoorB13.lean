/- A run of package quaykeep as plain mathematics: what was seen of a queue, held against the queue itself. A run's own state is written as a queue (MQ) whose groups hold what was seen, and, in the place of the dead, what was delivered last. -/
import Derived.Test.YtockkceclkcgbaaGreatDoorB12
import Derived.Test.YtockkceclkcgbaaGreatDoorB09
namespace Go.Proofs.YtockkceclkcgbaaGreatDoor
open Go.RowKit

/-- the cells of what was seen -/
def seenVals : List It → List Value
  | [] => []
  | x :: r => .int .i64 x.tries :: .bool (decide (0 < x.done)) :: .int .i64 x.till :: .int .i64 x.after :: seenVals r
theorem seenVals_length : ∀ l : List It, (seenVals l).length = l.length * 4
  | [] => rfl
  | x :: r => by simp [seenVals, seenVals_length r]; omega
theorem seenVals_at : ∀ (l : List It) (n : Nat) (x : It), l[n]? = some x →
    (seenVals l)[n * 4]? = some (.int .i64 x.tries) ∧ (seenVals l)[n * 4 + 1]? = some (.bool (decide (0 < x.done))) ∧ (seenVals l)[n * 4 + 2]? = some (.int .i64 x.till) ∧ (seenVals l)[n * 4 + 3]? = some (.int .i64 x.after)
  | [], _, _, h => by simp at h
  | y :: r, 0, x, h => by simp at h; subst h; simp [seenVals]
  | y :: r, n + 1, x, h => by
    have h2 := seenVals_at r n x (by simpa using h)
    have e : ∀ j, (n + 1) * 4 + j = (n * 4 + j) + 4 := fun j => by omega
    refine ⟨?_, ?_, ?_, ?_⟩
    · rw [show (n + 1) * 4 = n * 4 + 4 by omega]; simpa [seenVals] using h2.1
    · rw [e]; simpa [seenVals] using h2.2.1
    · rw [e]; simpa [seenVals] using h2.2.2.1
    · rw [e]; simpa [seenVals] using h2.2.2.2
theorem seenVals_append : ∀ a b : List It, seenVals (a ++ b) = seenVals a ++ seenVals b
  | [], _ => rfl
  | x :: r, b => by simp [seenVals, seenVals_append r b]
theorem seenVals_set : ∀ (l : List It) (n : Nat) (x : It), l[n]? = some x →
    (∀ v, (seenVals l).set (n * 4) (.int .i64 v) = seenVals (l.set n { x with tries := v })) ∧ (∀ v : Int, (seenVals l).set (n * 4 + 1) (.bool (decide (0 < v))) = seenVals (l.set n { x with done := v })) ∧
    (∀ v, (seenVals l).set (n * 4 + 2) (.int .i64 v) = seenVals (l.set n { x with till := v })) ∧ (∀ v, (seenVals l).set (n * 4 + 3) (.int .i64 v) = seenVals (l.set n { x with after := v }))
  | [], _, _, h => by simp at h
  | y :: r, 0, x, h => by simp at h; subst h; simp [seenVals]
  | y :: r, n + 1, x, h => by
    have h2 := seenVals_set r n x (by simpa using h)
    have e : ∀ j, (n + 1) * 4 + j = (n * 4 + j) + 4 := fun j => by omega
    refine ⟨fun v => ?_, fun v => ?_, fun v => ?_, fun v => ?_⟩
    · rw [show (n + 1) * 4 = n * 4 + 4 by omega]; simp only [seenVals, List.set_cons_succ, h2.1]
    · rw [e]; simp only [seenVals, List.set_cons_succ, h2.2.1]
    · rw [e]; simp only [seenVals, List.set_cons_succ, h2.2.2.1]
    · rw [e]; simp only [seenVals, List.set_cons_succ, h2.2.2.2]
/-- only the sign of 'done' is seen -/
theorem seenVals_sign : ∀ (a b : List It), a.length = b.length → (∀ (n : Nat) (x y : It), a[n]? = some x → b[n]? = some y → x.tries = y.tries ∧ x.till = y.till ∧ x.after = y.after ∧ decide (0 < x.done) = decide (0 < y.done)) → seenVals a = seenVals b
  | [], [], _, _ => rfl
  | [], _ :: _, h, _ => by simp at h
  | _ :: _, [], h, _ => by simp at h
  | x :: r, y :: s, h, hh => by
    obtain ⟨h1, h2, h3, h4⟩ := hh 0 x y rfl rfl
    simp only [seenVals, h1, h2, h3, h4]
    rw [seenVals_sign r s (by simpa using h) (fun n a b ha hb => hh (n + 1) a b (by simpa using ha) (by simpa using hb))]

/-- how often messages were delivered, together -/
def tsum (l : List It) : Nat := (l.map (fun x => x.tries.toNat)).sum
theorem tsum_append (a b : List It) : tsum (a ++ b) = tsum a + tsum b := by simp [tsum]
theorem tsum_set : ∀ (l : List It) (n : Nat) (x y : It), l[n]? = some x → tsum (l.set n y) + x.tries.toNat = tsum l + y.tries.toNat
  | [], n, x, y, h => by simp at h
  | z :: r, 0, x, y, h => by
    simp at h
    subst h
    simp [tsum]
    omega
  | z :: r, n + 1, x, y, h => by
    have ih := tsum_set r n x y (by simpa using h)
    simp [tsum] at ih ⊢
    omega
theorem tsum_le (d : Int) : ∀ l : List It, (∀ x ∈ l, x.tries ≤ d) → tsum l ≤ l.length * d.toNat
  | [], _ => by simp [tsum]
  | x :: r, h => by
    have ih := tsum_le d r (fun y hy => h y (by simp [hy]))
    have h1 := h x (by simp)
    simp only [tsum, List.map_cons, List.sum_cons, List.length_cons, Nat.succ_mul] at ih ⊢
    omega
theorem tsum_zeros (n : Nat) : tsum (List.replicate n It.zero) = 0 := by simp [tsum]

/-- What holds of the messages of a group. -/
structure NiceI (m : MQ) (start : Int) (l : List It) : Prop where
  done : ∀ (n : Nat) x, l[n]? = some x → 0 ≤ x.done
  tries : ∀ (n : Nat) x, l[n]? = some x → 0 ≤ x.tries ∧ x.tries ≤ m.c.d
  since : ∀ (n : Nat) x, l[n]? = some x → 0 < x.done → start ≤ n
  low : ∀ (n : Nat) x, l[n]? = some x → start ≤ n → (n : Int) < m.floor → 0 < x.done

theorem NiceI.set {m : MQ} {start : Int} {l : List It} {n : Nat} {x y : It} (h : NiceI m start l) (hx : l[n]? = some x) (h0 : 0 ≤ y.done) (h1 : 0 ≤ y.tries ∧ y.tries ≤ m.c.d) (h2 : 0 < y.done → start ≤ n) (h3 : 0 < x.done → 0 < y.done) : NiceI m start (l.set n y) := by
  have hn := (List.getElem?_eq_some_iff.1 hx).1
  have key : ∀ (P : Nat → It → Prop), (∀ j z, l[j]? = some z → P j z) → P n y → ∀ j z, (l.set n y)[j]? = some z → P j z := by
    intro P hP hy j z hz
    rw [List.getElem?_set] at hz
    by_cases hj : n = j
    · subst hj
      simp [hn] at hz
      subst hz
      exact hy
    · rw [if_neg hj] at hz
      exact hP j z hz
  exact ⟨key _ h.done h0, key _ h.tries h1, key _ h.since h2, key _ h.low (fun a b => h3 (h.low n x hx a b))⟩

/-- one delivery may be -/
def okD (m : MQ) (start : Int) (l : List It) (d : Dl) : Prop :=
  ∃ (n : Nat) (x : It), d.off = n ∧ l[n]? = some x ∧ m.floor ≤ n ∧ start ≤ n ∧ n < m.bodies.length ∧ ¬ 0 < x.done ∧ x.till ≤ m.time ∧ x.after ≤ m.time ∧ 0 ≤ x.tries ∧ d.tr = x.tries + 1 ∧ d.tr ≤ m.c.d ∧ d.body = m.bodies.getD n ⟨#[]⟩
/-- what was seen, behind one delivery -/
def tookI (m : MQ) (l : List It) (d : Dl) : List It := match l[d.off.toNat]? with
  | none => l
  | some x => l.set d.off.toNat { x with tries := d.tr, till := m.time + m.c.l }
theorem tookI_at {m : MQ} {l : List It} {d : Dl} {n : Nat} {x : It} (hd : d.off = n) (hx : l[n]? = some x) : tookI m l d = l.set n { x with tries := d.tr, till := m.time + m.c.l } := by
  simp [tookI, hd, hx]
def tookAll (m : MQ) : List It → List Dl → List It
  | l, [] => l
  | l, d :: r => tookAll m (tookI m l d) r
def okAll (m : MQ) (start : Int) : List It → List Dl → Prop
  | _, [] => True
  | l, d :: r => okD m start l d ∧ okAll m start (tookI m l d) r
theorem tookAll_snoc (m : MQ) : ∀ (r : List Dl) (l : List It) (d : Dl), tookAll m l (r ++ [d]) = tookI m (tookAll m l r) d
  | [], _, _ => rfl
  | _ :: r, l, d => by simp [tookAll, tookAll_snoc m r]
theorem okAll_snoc (m : MQ) (start : Int) : ∀ (r : List Dl) (l : List It) (d : Dl), okAll m start l (r ++ [d]) ↔ okAll m start l r ∧ okD m start (tookAll m l r) d
  | [], _, _ => by simp [okAll, tookAll]
  | e :: r, l, d => by simp [okAll, tookAll, okAll_snoc m start r, and_assoc]

/-- what was seen, against the messages themselves: the same, but for those that died unseen -/
def SimI (m : MQ) (start : Int) (dead : List Nat) (u l : List It) : Prop :=
  u.length = l.length ∧ ∀ (n : Nat) x, l[n]? = some x → ∃ y, u[n]? = some y ∧ (y = x ∨ (y = { x with done := y.done } ∧ y.done ≤ 0 ∧ 0 < x.done ∧ n ∈ dead ∧ x.tries = m.c.d ∧ start ≤ n))
theorem SimI.refl (m : MQ) (start : Int) (dead : List Nat) (l : List It) : SimI m start dead l l := ⟨rfl, fun _ x h => ⟨x, h, .inl rfl⟩⟩

/-- what a Receive has made so far, against what is seen of it -/
structure SimR (m : MQ) (g : MG) (st : RS) : Prop where
  nice : NiceI m g.start st.items
  len : st.items.length = m.bodies.length
  ok : okAll m g.start g.items st.out
  sim : SimI m g.start st.dead (tookAll m g.items st.out) st.items
  sum : tsum st.items = tsum g.items + st.out.length

theorem wrap_small {x : Int} (h0 : 0 ≤ x) (h1 : x ≤ 100) : wrap64 (x + 1) = x + 1 := by
  unfold wrap64
  omega

theorem sim_one {m : MQ} {g : MG} {st : RS} {n : Nat} {x : It} (hd : 1 ≤ m.c.d ∧ m.c.d ≤ 10) (h : SimR m g st) (hx : st.items[n]? = some x) : SimR m g (recvOne m g.start st n x) := by
  have hn := (List.getElem?_eq_some_iff.1 hx).1
  have hlen := h.len
  unfold recvOne
  cases hp : passed m g.start n x with
  | true => exact h
  | false =>
    simp only [passed, Bool.or_eq_false_iff, decide_eq_false_iff_not] at hp
    obtain ⟨⟨⟨⟨p1, p2⟩, p3⟩, p4⟩, p5⟩ := hp
    have ht := h.nice.tries n x hx
    have h0 := h.nice.done n x hx
    obtain ⟨y, hy, hyx⟩ := h.sim.2 n x hx
    have hyx' : y = x := by
      rcases hyx with e | ⟨_, _, e, _⟩
      · exact e
      · exact absurd e p3
    subst hyx'
    simp only [cond_false]
    by_cases hE : m.c.d ≤ y.tries
    · simp only [hE, decide_true, cond_true]
      refine ⟨h.nice.set hx (by simp) ht (fun _ => by omega) (fun _ => by simp), by simp [hlen], h.ok, ⟨by simp [h.sim.1], fun j z hz => ?_⟩, ?_⟩
      · rw [List.getElem?_set] at hz
        by_cases hj : n = j
        · subst hj
          simp [hn] at hz
          subst hz
          exact ⟨y, hy, .inr ⟨rfl, by omega, by simp, by simp, by simp; omega, by omega⟩⟩
        · rw [if_neg hj] at hz
          obtain ⟨y', hy', e⟩ := h.sim.2 j z hz
          refine ⟨y', hy', ?_⟩
          rcases e with e | ⟨e1, e2, e3, e4, e5⟩
          · exact .inl e
          · exact .inr ⟨e1, e2, e3, by simp [e4], e5⟩
      · have := tsum_set st.items n y { y with done := 2 } hx
        have := h.sum
        simp only at *
        omega
    · simp only [hE, decide_false, cond_false]
      have hw : wrap64 (y.tries + 1) = y.tries + 1 := wrap_small ht.1 (by omega)
      rw [hw]
      have hok : okD m g.start (tookAll m g.items st.out) ⟨n, y.tries + 1, m.bodies.getD n ⟨#[]⟩⟩ :=
        ⟨n, y, rfl, hy, by omega, by omega, by omega, p3, by omega, by omega, ht.1, rfl, by simp; omega, rfl⟩
      have hl : (tookAll m g.items st.out).length = st.items.length := h.sim.1
      refine ⟨h.nice.set hx h0 ⟨by simp; omega, by simp; omega⟩ (fun e => absurd e p3) (fun e => e), by simp [hlen], (okAll_snoc _ _ _ _ _).2 ⟨h.ok, hok⟩, ?_, ?_⟩
      · rw [tookAll_snoc, tookI_at (n := n) rfl hy]
        refine ⟨by simp [hl], fun j z hz => ?_⟩
        rw [List.getElem?_set] at hz ⊢
        by_cases hj : n = j
        · subst hj
          simp [hn] at hz
          subst hz
          exact ⟨_, by simp [hl, hn], .inl rfl⟩
        · rw [if_neg hj] at hz ⊢
          exact h.sim.2 j z hz
      · have := tsum_set st.items n y { y with tries := y.tries + 1, till := m.time + m.c.l } hx
        have := h.sum
        simp only [List.length_append, List.length_cons, List.length_nil] at *
        omega
theorem sim_step {m : MQ} {g : MG} {fr : List Nat} {st : RS} {k : Nat} (hd : 1 ≤ m.c.d ∧ m.c.d ≤ 10) (h : SimR m g st) : SimR m g (recvStep m g.start fr st k) := by
  unfold recvStep
  cases decide (k < m.bodies.length)
  · simp only [cond_false]
    cases fr[k - m.bodies.length]? with
    | none => exact h
    | some n =>
      simp only
      cases hx : st.items[n]? with
      | none => exact h
      | some x => exact sim_one hd h hx
  · simp only [cond_true]
    cases hx : st.items[k]? with
    | none => exact h
    | some x =>
      simp only
      cases decide (x.tries = 0)
      · exact sim_one hd h hx
      · exact h
theorem sim_run {m : MQ} {g : MG} {fr : List Nat} {n : Int} (hd : 1 ≤ m.c.d ∧ m.c.d ≤ 10) : ∀ (f k : Nat) (st : RS), SimR m g st → SimR m g (recvRun m g.start fr n f k st)
  | 0, _, _, h => h
  | f + 1, k, st, h => by
    unfold recvRun
    cases decide (n ≤ st.out.length)
    · exact sim_run hd f (k + 1) _ (sim_step hd h)
    · exact h
theorem sim_all {m : MQ} {g : MG} {n : Int} (hd : 1 ≤ m.c.d ∧ m.c.d ≤ 10) (h : NiceI m g.start g.items) (hl : g.items.length = m.bodies.length) : SimR m g (recvAll m g n) :=
  sim_run hd _ _ _ ⟨h, hl, trivial, SimI.refl _ _ _ _, by simp⟩

/-- no more are delivered than were asked for -/
theorem out_one {m : MQ} {start : Int} {st : RS} {n : Nat} {x : It} : (recvOne m start st n x).out.length ≤ st.out.length + 1 := by
  unfold recvOne
  cases passed m start n x
  · cases decide (m.c.d ≤ x.tries) <;> simp
  · simp
theorem out_step {m : MQ} {start : Int} {fr : List Nat} {st : RS} {k : Nat} : (recvStep m start fr st k).out.length ≤ st.out.length + 1 := by
  unfold recvStep
  cases decide (k < m.bodies.length)
  · simp only [cond_false]
    cases fr[k - m.bodies.length]? with
    | none => simp
    | some n =>
      simp only
      cases st.items[n]? with
      | none => simp
      | some x => exact out_one
  · simp only [cond_true]
    cases st.items[k]? with
    | none => simp
    | some x =>
      simp only
      cases decide (x.tries = 0)
      · exact out_one
      · simp
theorem out_run {m : MQ} {start : Int} {fr : List Nat} {n : Int} : ∀ (f k : Nat) (st : RS), (st.out.length : Int) ≤ n → ((recvRun m start fr n f k st).out.length : Int) ≤ n
  | 0, _, _, h => h
  | f + 1, k, st, h => by
    unfold recvRun
    by_cases hE : n ≤ st.out.length
    · simp only [hE, decide_true, cond_true]; exact h
    · simp only [hE, decide_false, cond_false]
      have := out_step (m := m) (start := start) (fr := fr) (st := st) (k := k)
      exact out_run f (k + 1) _ (by omega)
theorem out_all {m : MQ} {g : MG} {n : Int} (h : 0 ≤ n) : ((recvAll m g n).out.length : Int) ≤ n := out_run _ _ _ (by simpa using h)

end Go.Proofs.YtockkceclkcgbaaGreatDoor

/- A run of package quaykeep in memory, its row of groups named: what is read of it, and what a write leaves. -/
namespace Go.Proofs.YtockkceclkcgbaaGreatDoor
open Go.RowKit

def updF {α : Type} (f : Nat → α) (k : Nat) (v : α) : Nat → α := fun j => if j = k then v else f j
theorem updF_same {α : Type} (f : Nat → α) (k : Nat) (v : α) : updF f k v k = v := by simp [updF]
theorem updF_other {α : Type} (f : Nat → α) (k : Nat) (v : α) {j : Nat} (h : ¬ j = k) : updF f k v j = f j := by simp [updF, h]
theorem updF_self {α : Type} (f : Nat → α) (k : Nat) : updF f k (f k) = f := by
  funext j
  by_cases h : j = k <;> simp [updF, h]
theorem updF_twice {α : Type} (f : Nat → α) (k : Nat) (v u : α) : updF (updF f k v) k u = updF f k u := by
  funext j
  by_cases h : j = k <;> simp [updF, h]

/-- what a run holds: the queue's own numbers; U: of each group what was seen; L: what was delivered to it -/
def MQ.rvU (m : MQ) (U : Nat → List It) (L : Nat → List Nat) : RV :=
  ⟨m.c, m.bodies.map .string, m.floor, m.groups.mapIdx (fun k g => ⟨g.name, g.start, seenVals (U k), (L k).map natV⟩), m.time, true, true, true⟩
theorem rvU_groups (m : MQ) (U : Nat → List It) (L : Nat → List Nat) (k : Nat) : (m.rvU U L).groups[k]? = (m.groups[k]?).map (fun g => ⟨g.name, g.start, seenVals (U k), (L k).map natV⟩) := by simp [MQ.rvU]
theorem rvU_len (m : MQ) (U : Nat → List It) (L : Nat → List Nat) : (m.rvU U L).groups.length = m.groups.length := by simp [MQ.rvU]
theorem rvU_blen (m : MQ) (U : Nat → List It) (L : Nat → List Nat) : (m.rvU U L).bodies.length = m.bodies.length := by simp [MQ.rvU]
theorem rvU_nameStart (m m' : MQ) (U U' : Nat → List It) (L L' : Nat → List Nat) (h : m'.groups.map (fun g => (g.name, g.start)) = m.groups.map (fun g => (g.name, g.start))) :
    (m'.rvU U' L').groups.map (fun g => (g.name, g.start)) = (m.rvU U L).groups.map (fun g => (g.name, g.start)) := by
  apply List.ext_getElem?
  intro k
  have hk := congrArg (fun l => l[k]?) h
  simp only [List.getElem?_map] at hk
  simp only [List.getElem?_map, rvU_groups, Option.map_map]
  cases h1 : m.groups[k]? <;> cases h2 : m'.groups[k]? <;> simp [h1, h2] at hk ⊢
  exact hk
/-- the same numbers, the same groups: the same run -/
theorem rvU_congr {m m' : MQ} {U U' : Nat → List It} {L L' : Nat → List Nat} (hc : m'.c = m.c) (hb : m'.bodies = m.bodies) (hf : m'.floor = m.floor) (ht : m'.time = m.time)
    (hg : m'.groups.map (fun g => (g.name, g.start)) = m.groups.map (fun g => (g.name, g.start))) (hU : ∀ k, k < m.groups.length → seenVals (U' k) = seenVals (U k)) (hL : ∀ k, k < m.groups.length → L' k = L k) : m'.rvU U' L' = m.rvU U L := by
  have e : (m'.rvU U' L').groups = (m.rvU U L).groups := by
    apply List.ext_getElem?
    intro k
    have hk := congrArg (fun l => l[k]?) hg
    simp only [List.getElem?_map] at hk
    simp only [rvU_groups]
    cases h1 : m.groups[k]? with
    | none =>
      rw [h1] at hk
      cases h2 : m'.groups[k]? with
      | none => rfl
      | some g' => rw [h2] at hk; cases hk
    | some g =>
      rw [h1] at hk
      have hlt := (List.getElem?_eq_some_iff.1 h1).1
      cases h2 : m'.groups[k]? with
      | none => rw [h2] at hk; cases hk
      | some g' =>
        rw [h2] at hk
        simp at hk
        simp [hk.1, hk.2, hU k hlt, hL k hlt]
  unfold MQ.rvU at e ⊢
  simp only at e
  rw [e, hc, hb, hf, ht]

/-- what the queue itself says of a group's messages -/
def itemsOf (m : MQ) (k : Nat) : List It := match m.groups[k]? with
  | some g => g.items
  | none => []
theorem itemsOf_at {m : MQ} {k : Nat} {g : MG} (h : m.groups[k]? = some g) : itemsOf m k = g.items := by simp [itemsOf, h]
def MQ.rv (m : MQ) (L : Nat → List Nat) : RV := m.rvU (itemsOf m) L

/-- The run of number i in block b, its queue in block bx, its groups in block gb. -/
structure RunG (w : World) (T : Nat → Tag) (i b bx gb gc : Nat) (m : MQ) (U : Nat → List It) (L : Nat → List Nat) : Prop where
  small : m.bodies.length ≤ 400
  few : m.groups.length ≤ 6
  mem : ∃ vB vi vd, Blk w T (.run i) b (runCells bx (m.rvU U L) vB (.slice (some ⟨gb, 0, none⟩) m.groups.length gc)) 57 ∧
    Row w T (.rbod i) 9 1 vB m.bodies.length (m.bodies.map .string) ∧ Row w T (.rgrp i) 63 4 (.slice (some ⟨gb, 0, none⟩) m.groups.length gc) m.groups.length (groupCells (m.rvU U L).groups vi vd) ∧
    ∀ k g, m.groups[k]? = some g → Row w T (.rseen i k) 67 4 (vi k) m.bodies.length (seenVals (U k)) ∧ Row w T (.rlast i k) 3 1 (vd k) (L k).length ((L k).map natV)

theorem RunG.run {w : World} {T : Nat → Tag} {i b bx gb gc : Nat} {m : MQ} {U : Nat → List It} {L : Nat → List Nat} (h : RunG w T i b bx gb gc m U L) : RunM w T i b bx (m.rvU U L) := by
  obtain ⟨h1, h2, vB, vi, vd, hB, hR, hG, hI⟩ := h
  refine ⟨by rw [rvU_blen]; exact h1, by rw [rvU_len]; exact h2, vB, _, vi, vd, hB, by rw [rvU_blen]; exact hR, by rw [rvU_len]; exact hG, fun k r hk => ?_⟩
  rw [rvU_groups] at hk
  obtain ⟨g, hg, rfl⟩ := Option.map_eq_some_iff.1 hk
  obtain ⟨q1, q2⟩ := hI k g hg
  refine ⟨by rw [rvU_blen]; exact q1, ?_⟩
  simpa using q2
theorem RunM.named {w : World} {T : Nat → Tag} {i b bx : Nat} {m : MQ} {U : Nat → List It} {L : Nat → List Nat} (h : RunM w T i b bx (m.rvU U L)) (hp : 0 < m.groups.length) : ∃ gb gc, RunG w T i b bx gb gc m U L := by
  obtain ⟨h1, h2, vB, vG, vi, vd, hB, hR, hG, hI⟩ := h
  rw [rvU_blen] at h1 hR
  rw [rvU_len] at h2 hG
  obtain ⟨gb, gc, rfl⟩ := row_some hG hp
  refine ⟨gb, gc, h1, h2, vB, vi, vd, hB, hR, hG, fun k g hg => ?_⟩
  have hk := hI k _ (by rw [rvU_groups, hg]; rfl)
  obtain ⟨q1, q2⟩ := hk
  rw [rvU_blen] at q1
  refine ⟨q1, ?_⟩
  simpa using q2
theorem RunG.step {S : Tag → Prop} {w w' : World} {T T' : Nat → Tag} {i b bx gb gc : Nat} {m : MQ} {U : Nat → List It} {L : Nat → List Nat} (h : RunG w T i b bx gb gc m U L) (hs : Step S w T w' T') (hS : ∀ t, RT i t → ¬ S t) : RunG w' T' i b bx gb gc m U L := by
  obtain ⟨h1, h2, vB, vi, vd, hB, hR, hG, hI⟩ := h
  have n : ∀ c k, 20 ≤ c → c ≤ 24 → ¬ S ⟨c, i, k, 0⟩ := fun c k a b => hS _ ⟨a, b, rfl⟩
  exact ⟨h1, h2, vB, vi, vd, hB.step hs (n _ _ (by decide) (by decide)), hR.step hs (n _ _ (by decide) (by decide)), hG.step hs (n _ _ (by decide) (by decide)),
    fun k g hk => ⟨(hI k g hk).1.step hs (n _ _ (by decide) (by decide)), (hI k g hk).2.step hs (n _ _ (by decide) (by decide))⟩⟩
theorem RunG.congr {w : World} {T : Nat → Tag} {i b bx gb gc : Nat} {m m' : MQ} {U U' : Nat → List It} {L L' : Nat → List Nat} (h : RunG w T i b bx gb gc m U L) (hc : m'.c = m.c) (hb : m'.bodies = m.bodies) (hf : m'.floor = m.floor) (ht : m'.time = m.time)
    (hg : m'.groups.map (fun g => (g.name, g.start)) = m.groups.map (fun g => (g.name, g.start))) (hU : ∀ k, k < m.groups.length → seenVals (U' k) = seenVals (U k)) (hL : ∀ k, k < m.groups.length → L' k = L k) : RunG w T i b bx gb gc m' U' L' := by
  have e := rvU_congr hc hb hf ht hg hU hL
  have hl : m'.groups.length = m.groups.length := by simpa using congrArg List.length hg
  obtain ⟨h1, h2, vB, vi, vd, hB, hR, hG, hI⟩ := h
  refine ⟨by rw [hb]; exact h1, by rw [hl]; exact h2, vB, vi, vd, by rw [e, hl]; exact hB, by rw [hb]; exact hR, by rw [e, hl]; exact hG, fun k g' hk => ?_⟩
  have hlt : k < m.groups.length := by rw [← hl]; exact (List.getElem?_eq_some_iff.1 hk).1
  have q := hI k _ (List.getElem?_eq_getElem hlt)
  rw [hb, hU k hlt, hL k hlt]
  exact q

theorem Step.frozen {S : Tag → Prop} {w w' : World} {T T' : Nat → Tag} (h : Step S w T w' T') {p : Addr} (hp : p.block < w.heap.size) (hS : ¬ S (T p.block)) : w'.frozen? p = w.frozen? p := by
  unfold World.frozen?
  rw [h.block p.block hp hS]

/-- what is read of a run at one group -/
structure RunAt (w : World) (T : Nat → Tag) (i b bx gb gc : Nat) (m : MQ) (k : Nat) (g : MG) (u : List It) (l : List Nat) (bo : Option Addr) (bc : Nat) (so : Option Addr) (sc : Nat) (lo : Option Addr) (lc : Nat) : Prop where
  lb : b < w.heap.size
  lg : gb < w.heap.size
  tb : T b = .run i
  tg : T gb = .rgrp i
  ne : gb ≠ b
  fb : ∀ j, w.frozen? ⟨b, j, none⟩ = false
  fg : ∀ j, w.frozen? ⟨gb, j, none⟩ = false
  c0 : w.cell? ⟨b, 0, none⟩ = some (.pointer (some ⟨bx, 0, none⟩))
  c1 : w.cell? ⟨b, 1, none⟩ = some (.int .i64 m.c.l)
  c2 : w.cell? ⟨b, 2, none⟩ = some (.int .i64 m.c.d)
  c3 : w.cell? ⟨b, 3, none⟩ = some (.int .i64 m.c.s)
  c4 : w.cell? ⟨b, 4, none⟩ = some (.int .i64 m.c.k)
  c5 : w.cell? ⟨b, 5, none⟩ = some (.slice bo m.bodies.length bc)
  c6 : w.cell? ⟨b, 6, none⟩ = some (.int .i64 m.floor)
  c7 : w.cell? ⟨b, 7, none⟩ = some (.slice (some ⟨gb, 0, none⟩) m.groups.length gc)
  c8 : w.cell? ⟨b, 8, none⟩ = some (.int .i64 m.time)
  c9 : w.cell? ⟨b, 9, none⟩ = some (.bool true)
  c10 : w.cell? ⟨b, 10, none⟩ = some (.bool true)
  c11 : w.cell? ⟨b, 11, none⟩ = some (.bool true)
  d0 : w.cell? ⟨gb, k * 4, none⟩ = some (.string g.name)
  d1 : w.cell? ⟨gb, k * 4 + 1, none⟩ = some (.int .i64 g.start)
  d2 : w.cell? ⟨gb, k * 4 + 2, none⟩ = some (.slice so m.bodies.length sc)
  d3 : w.cell? ⟨gb, k * 4 + 3, none⟩ = some (.slice lo l.length lc)
  bod : Row w T (.rbod i) 9 1 (.slice bo m.bodies.length bc) m.bodies.length (m.bodies.map .string)
  see : Row w T (.rseen i k) 67 4 (.slice so m.bodies.length sc) m.bodies.length (seenVals u)
  last : Row w T (.rlast i k) 3 1 (.slice lo l.length lc) l.length (l.map natV)
  kl : k < m.groups.length
  k6 : m.groups.length ≤ 6
  n4 : m.bodies.length ≤ 400

theorem RunG.at {w : World} {T : Nat → Tag} {i b bx gb gc : Nat} {m : MQ} {U : Nat → List It} {L : Nat → List Nat} {k : Nat} {g : MG} (h : RunG w T i b bx gb gc m U L) (hg : m.groups[k]? = some g) :
    ∃ bo bc so sc lo lc, RunAt w T i b bx gb gc m k g (U k) (L k) bo bc so sc lo lc := by
  obtain ⟨h1, h2, vB, vi, vd, hB, hR, hG, hI⟩ := h
  obtain ⟨bo, bc, rfl⟩ := row_form hR
  obtain ⟨q1, q2⟩ := hI k g hg
  obtain ⟨so, sc, e1⟩ := row_form q1
  obtain ⟨lo, lc, e2⟩ := row_form q2
  rw [e1] at q1
  rw [e2] at q2
  obtain ⟨d0, d1, d2, d3⟩ := groupCells_at (m.rvU U L).groups vi vd k _ (by rw [rvU_groups, hg]; rfl)
  rw [e1] at d2
  rw [e2] at d3
  exact ⟨bo, bc, so, sc, lo, lc, ⟨hB.lt, hG.lt, hB.1, hG.2 gb rfl, fun e => by have h1 := hG.2 gb rfl; rw [e, hB.1] at h1; simp at h1, hB.frozen, hG.frozen, hB.cell rfl, hB.cell rfl, hB.cell rfl, hB.cell rfl, hB.cell rfl, hB.cell rfl, hB.cell rfl, hB.cell rfl, hB.cell rfl, hB.cell rfl, hB.cell rfl, hB.cell rfl,
    hG.cell d0, hG.cell d1, hG.cell d2, hG.cell d3, hR, q1, q2, (List.getElem?_eq_some_iff.1 hg).1, h2, h1⟩⟩

/-- the same where the row of what was seen is known -/
theorem RunG.atS {w : World} {T : Nat → Tag} {i b bx gb gc : Nat} {m : MQ} {U : Nat → List It} {L : Nat → List Nat} {k : Nat} {g : MG} {gi sc : Nat} (h : RunG w T i b bx gb gc m U L) (hg : m.groups[k]? = some g) (d2 : w.cell? ⟨gb, k * 4 + 2, none⟩ = some (.slice (some ⟨gi, 0, none⟩) m.bodies.length sc)) :
    ∃ bo bc lo lc, RunAt w T i b bx gb gc m k g (U k) (L k) bo bc (some ⟨gi, 0, none⟩) sc lo lc := by
  obtain ⟨bo, bc, so, sc', lo, lc, A⟩ := h.at hg
  have e := A.d2
  rw [d2] at e
  cases e
  exact ⟨bo, bc, lo, lc, A⟩
theorem RunAt.step {S : Tag → Prop} {w w' : World} {T T' : Nat → Tag} {i b bx gb gc : Nat} {m : MQ} {k : Nat} {g : MG} {u : List It} {l : List Nat} {bo : Option Addr} {bc : Nat} {so : Option Addr} {sc : Nat} {lo : Option Addr} {lc : Nat}
    (h : RunAt w T i b bx gb gc m k g u l bo bc so sc lo lc) (hs : Step S w T w' T') (hS : ∀ t, RT i t → ¬ S t) : RunAt w' T' i b bx gb gc m k g u l bo bc so sc lo lc := by
  have n : ∀ c k, 20 ≤ c → c ≤ 24 → ¬ S ⟨c, i, k, 0⟩ := fun c k a b => hS _ ⟨a, b, rfl⟩
  have nb : ¬ S (T b) := by rw [h.tb]; exact n _ _ (by decide) (by decide)
  have ng : ¬ S (T gb) := by rw [h.tg]; exact n _ _ (by decide) (by decide)
  have cb : ∀ j, w'.cell? ⟨b, j, none⟩ = w.cell? ⟨b, j, none⟩ := fun j => hs.cell (p := ⟨b, j, none⟩) h.lb nb
  have cg : ∀ j, w'.cell? ⟨gb, j, none⟩ = w.cell? ⟨gb, j, none⟩ := fun j => hs.cell (p := ⟨gb, j, none⟩) h.lg ng
  exact ⟨Nat.lt_of_lt_of_le h.lb hs.size, Nat.lt_of_lt_of_le h.lg hs.size, (hs.tag b h.lb).trans h.tb, (hs.tag gb h.lg).trans h.tg, h.ne, fun j => (hs.frozen (p := ⟨b, j, none⟩) h.lb nb).trans (h.fb j), fun j => (hs.frozen (p := ⟨gb, j, none⟩) h.lg ng).trans (h.fg j),
    (cb 0).trans h.c0, (cb 1).trans h.c1, (cb 2).trans h.c2, (cb 3).trans h.c3, (cb 4).trans h.c4, (cb 5).trans h.c5, (cb 6).trans h.c6, (cb 7).trans h.c7, (cb 8).trans h.c8, (cb 9).trans h.c9, (cb 10).trans h.c10, (cb 11).trans h.c11,
    (cg _).trans h.d0, (cg _).trans h.d1, (cg _).trans h.d2, (cg _).trans h.d3, h.bod.step hs (n _ _ (by decide) (by decide)), h.see.step hs (n _ _ (by decide) (by decide)), h.last.step hs (n _ _ (by decide) (by decide)), h.kl, h.k6, h.n4⟩

theorem RunG.len {w : World} {T : Nat → Tag} {i b bx gb gc : Nat} {m : MQ} {U : Nat → List It} {L : Nat → List Nat} (h : RunG w T i b bx gb gc m U L) : w.cell? ⟨b, 7, none⟩ = some (.slice (some ⟨gb, 0, none⟩) m.groups.length gc) ∧ b < w.heap.size := by
  obtain ⟨h1, h2, vB, vi, vd, hB, hR, hG, hI⟩ := h
  exact ⟨hB.cell rfl, hB.lt⟩

theorem rt_rgrp (i : Nat) {t : Tag} (h : t = .rgrp i) : RT i t := by subst h; exact ⟨by simp, by simp, rfl⟩
theorem rt_rseen (i k : Nat) {t : Tag} (h : t = .rseen i k) : RT i t := by subst h; exact ⟨by simp, by simp, rfl⟩
theorem rt_rlast (i k : Nat) {t : Tag} (h : t = .rlast i k) : RT i t := by subst h; exact ⟨by simp, by simp, rfl⟩
theorem rt_itself (i : Nat) {t : Tag} (h : t = .run i) : RT i t := by subst h; exact ⟨by simp, by simp, rfl⟩
theorem xt_of_rt {i j : Nat} : ∀ t, XT j t → ¬ RT i t := fun _ a b => xt_rt b a

/-- one of the run's own flags is written true -/
theorem RunG.flag {w : World} {T : Nat → Tag} {i b bx gb gc : Nat} {m : MQ} {U : Nat → List It} {L : Nat → List Nat} (h : RunG w T i b bx gb gc m U L) (j : Nat) (hj : j = 9 ∨ j = 10 ∨ j = 11) :
    RunG (w.setCell ⟨b, j, none⟩ (.bool true)) T i b bx gb gc m U L ∧ Step (fun t => t = .run i) w T (w.setCell ⟨b, j, none⟩ (.bool true)) T := by
  obtain ⟨h1, h2, vB, vi, vd, hB, hR, hG, hI⟩ := h
  have hs : Step (fun t => t = .run i) w T (w.setCell ⟨b, j, none⟩ (.bool true)) T := step_setCell _ _ _ _ _ hB.1
  have hB' := hB.set j (.bool true)
  have e : (runCells bx (m.rvU U L) vB (.slice (some ⟨gb, 0, none⟩) m.groups.length gc)).setIfInBounds j (.bool true) = runCells bx (m.rvU U L) vB (.slice (some ⟨gb, 0, none⟩) m.groups.length gc) := by
    rcases hj with rfl | rfl | rfl <;> rfl
  rw [e] at hB'
  exact ⟨⟨h1, h2, vB, vi, vd, hB', hR.step hs (by simp), hG.step hs (by simp), fun k g hk => ⟨(hI k g hk).1.step hs (by simp), (hI k g hk).2.step hs (by simp)⟩⟩, hs⟩

/-- a cell of what was seen is written -/
theorem RunG.seen {w : World} {T : Nat → Tag} {i b bx gb gc : Nat} {m : MQ} {U : Nat → List It} {L : Nat → List Nat} {k : Nat} {g : MG} {gi sc j : Nat} {v : Value} {u' : List It} (h : RunG w T i b bx gb gc m U L) (hg : m.groups[k]? = some g)
    (d2 : w.cell? ⟨gb, k * 4 + 2, none⟩ = some (.slice (some ⟨gi, 0, none⟩) m.bodies.length sc)) (hj : j < m.bodies.length * 4) (hv : (seenVals (U k)).set j v = seenVals u') :
    RunG (w.setCell ⟨gi, j, none⟩ v) T i b bx gb gc m (updF U k u') L ∧ Step (fun t => t = .rseen i k) w T (w.setCell ⟨gi, j, none⟩ v) T := by
  obtain ⟨h1, h2, vB, vi, vd, hB, hR, hG, hI⟩ := h
  obtain ⟨q1, q2⟩ := hI k g hg
  have d2' := hG.cell (groupCells_at (m.rvU U L).groups vi vd k _ (by rw [rvU_groups, hg]; rfl)).2.2.1
  rw [d2] at d2'
  have e1 : vi k = .slice (some ⟨gi, 0, none⟩) m.bodies.length sc := (Option.some.inj d2').symm
  rw [e1] at q1
  have hl : (seenVals (U k)).length = m.bodies.length * 4 := q1.1.1
  have hs : Step (fun t => t = .rseen i k) w T (w.setCell ⟨gi, j, none⟩ v) T := step_setCell _ _ _ _ _ (q1.2 gi rfl)
  have hset := q1.set (j := j) (by omega) v
  rw [hv] at hset
  refine ⟨⟨h1, h2, vB, vi, vd, hB.step hs (by simp), hR.step hs (by simp), ?_, fun j' g' hj' => ?_⟩, hs⟩
  · rw [groupCells_congr (m.rvU U L).groups _ vi vd vi vd (rvU_nameStart m m U _ L L rfl) (fun _ _ => rfl) (fun _ _ => rfl)]
    exact hG.step hs (by simp)
  · by_cases hjk : j' = k
    · subst hjk
      rw [updF_same, e1]
      exact ⟨hset, q2.step hs (by simp)⟩
    · rw [updF_other _ _ _ hjk]
      exact ⟨(hI j' g' hj').1.step hs (by simp [hjk]), (hI j' g' hj').2.step hs (by simp)⟩

/-- the list of what was delivered is longer -/
theorem RunG.add {w w3 : World} {T T3 : Nat → Tag} {i b bx gb gc : Nat} {m : MQ} {U : Nat → List It} {L : Nat → List Nat} {k : Nat} {g : MG} {v : Value} {l' : List Nat} (h : RunG w T i b bx gb gc m U L) (hg : m.groups[k]? = some g)
    (hs : Step (fun t => t = .rlast i k) w T w3 T3) (hr : Row w3 T3 (.rlast i k) 3 1 v l'.length (l'.map natV)) :
    RunG (w3.setCell ⟨gb, k * 4 + 3, none⟩ v) T3 i b bx gb gc m U (updF L k l') ∧ Step (RT i) w T (w3.setCell ⟨gb, k * 4 + 3, none⟩ v) T3 := by
  obtain ⟨h1, h2, vB, vi, vd, hB, hR, hG, hI⟩ := h
  have hkl : k < (m.rvU U L).groups.length := by rw [rvU_len]; exact (List.getElem?_eq_some_iff.1 hg).1
  have hG3 := hG.step hs (by simp)
  have hs4 : Step (fun t => t = .rgrp i) w3 T3 (w3.setCell ⟨gb, k * 4 + 3, none⟩ v) T3 := step_setCell _ _ _ _ _ (hG3.2 gb rfl)
  have hset := hG3.set (j := k * 4 + 3) (by rw [groupCells_length]; omega) v
  rw [groupCells_deads _ _ _ _ _ hkl] at hset
  refine ⟨⟨h1, h2, vB, vi, fun j => if j = k then v else vd j, (hB.step hs (by simp)).step hs4 (by simp), (hR.step hs (by simp)).step hs4 (by simp), ?_, fun j' g' hj' => ?_⟩, (hs.mono (fun _ h => rt_rlast i k h)).trans (hs4.mono (fun _ h => rt_rgrp i h))⟩
  · rw [groupCells_congr (m.rvU U L).groups _ vi _ vi (fun j => if j = k then v else vd j) (rvU_nameStart m m U U L _ rfl) (fun _ _ => rfl) (fun _ _ => rfl)]
    exact hset
  · by_cases hjk : j' = k
    · subst hjk
      rw [updF_same]
      simp only [if_true]
      exact ⟨((hI j' g' hj').1.step hs (by simp)).step hs4 (by simp), hr.step hs4 (by simp)⟩
    · rw [updF_other _ _ _ hjk]
      simp only [if_neg hjk]
      exact ⟨((hI j' g' hj').1.step hs (by simp)).step hs4 (by simp), ((hI j' g' hj').2.step hs (by simp [hjk])).step hs4 (by simp)⟩

end Go.Proofs.YtockkceclkcgbaaGreatDoor

/- The contract of has: is a number in ranges? -/
namespace Go.Proofs.YtockkceclkcgbaaGreatDoor
open Go.RowKit

/-- is a number in one of the ranges from the j-th on? -/
def hasFrom (l : List (Int × Int)) (n : Int) (j : Nat) : Bool := (l.drop j).any (fun r => decide (r.1 ≤ n) && decide (n ≤ r.2))
theorem hasFrom_end {l : List (Int × Int)} {n : Int} {j : Nat} (h : l.length ≤ j) : hasFrom l n j = false := by simp [hasFrom, List.drop_eq_nil_of_le h]
theorem hasFrom_at {l : List (Int × Int)} {n : Int} {j : Nat} {r : Int × Int} (h : l[j]? = some r) : hasFrom l n j = ((decide (r.1 ≤ n) && decide (n ≤ r.2)) || hasFrom l n (j + 1)) := by
  obtain ⟨h1, h2⟩ := List.getElem?_eq_some_iff.1 h
  unfold hasFrom
  rw [List.drop_eq_getElem_cons h1, h2]
  simp
theorem hasFrom_in (l : List (Int × Int)) (n : Int) : hasFrom l n 0 = true ↔ inL l n := by
  simp [hasFrom, inL]

set_option maxRecDepth 100000 in
set_option maxHeartbeats 1000000 in
theorem khas_any (l : List (Int × Int)) (n : Int) (ao : Option Addr) (cap : Nat) (t : Tag) (w : World) (T : Nat → Tag) (hr : Row w T t 69 2 (.slice ao l.length cap) l.length (pairVals l)) (hl : l.length ≤ 400) :
    Calls Tryz.prog 89 #[.slice ao l.length cap, .int .i64 n] w fun e w' => e = .returned (.bool (hasFrom l n 0)) ∧ w' = w := by
  go_enter Tryz.func89, Tryz.ntmps89
  go_wp2
  go_loopw [5] (fun x wr => ∃ k : Nat, k ≤ l.length ∧ x = .int .i64 k ∧ wr = w ∧ Hid (hasFrom l n 0 = hasFrom l n k)) (fun x _ => l.length - (intOf x).toNat)
  case atStart => exact ⟨0, Nat.zero_le _, rfl, rfl, hide rfl⟩
  case round =>
    obtain ⟨k, hk, rfl, rfl, hh⟩ := hrel
    by_cases hlt : k < l.length
    · obtain ⟨r, hrk⟩ : ∃ r, l[k]? = some r := ⟨_, List.getElem?_eq_getElem hlt⟩
      obtain ⟨g, _, e⟩ := row_some hr (by omega)
      cases e
      have t0 := hr.cell (pairVals_at l k r hrk).1
      have t1 := hr.cell (pairVals_at l k r hrk).2
      have hat := hide (hasFrom_at (n := n) hrk)
      by_cases h1 : r.1 ≤ n
      · by_cases h2 : n ≤ r.2
        · go_wp2
          go_ret
          exact ⟨by rw [hh.out, hat.out]; simp [h1, h2], rfl⟩
        · go_wp2
          exact ⟨⟨k + 1, by omega, by simp, by trivial, hide (by rw [hh.out, hat.out]; simp [h2])⟩, by simp [intOf]; omega⟩
      · go_wp2
        exact ⟨⟨k + 1, by omega, by simp, by trivial, hide (by rw [hh.out, hat.out]; simp [h1])⟩, by simp [intOf]; omega⟩
    · go_wp2
      go_ret
      exact ⟨by rw [hh.out, hasFrom_end (by omega)]; rfl, rfl⟩

end Go.Proofs.YtockkceclkcgbaaGreatDoor

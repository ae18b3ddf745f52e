/- The mathematics of Lively: a Receive that delivers nothing leaves nothing that may be delivered. -/
import Derived.Test.YtockkceclkcgbaaGreatDoorT43
import Derived.Test.YtockkceclkcgbaaGreatDoorT34
import Derived.Test.YtockkceclkcgbaaGreatDoorT44
namespace Go.Proofs.YtockkceclkcgbaaGreatDoor
open Go.RowKit

theorem recvOne_not {m : MQ} {start : Int} {st : RS} {v : Nat} {x : It} (hp : passed m start v x = false) :
    (m.c.d ≤ x.tries ∧ recvOne m start st v x = ⟨st.items.set v { x with done := 2 }, st.dead ++ [v], wrap64 (st.ch + 1), st.out⟩) ∨
    (¬ m.c.d ≤ x.tries ∧ recvOne m start st v x = ⟨st.items.set v { x with tries := wrap64 (x.tries + 1), till := m.time + m.c.l }, st.dead, wrap64 (st.ch + 1), st.out ++ [⟨v, wrap64 (x.tries + 1), m.bodies.getD v ⟨#[]⟩⟩]⟩) := by
  unfold recvOne
  rw [hp]
  by_cases h : m.c.d ≤ x.tries
  · left; simp [h]
  · right; simp [h]

/-- what a walk over messages that may be delivered makes of them -/
theorem take_mem {m : MQ} {start n : Int} : ∀ (l : List Nat) (st : RS), l.Nodup → (∀ v ∈ l, ∃ x, st.items[v]? = some x ∧ passed m start v x = false) →
    (∀ d ∈ (takeV m start n l st).out, d ∈ st.out ∨ ∃ v x, v ∈ l ∧ st.items[v]? = some x ∧ d.off = (v : Int) ∧ (takeV m start n l st).items[v]? = some { x with tries := wrap64 (x.tries + 1), till := m.time + m.c.l }) ∧
    (∀ v ∈ l, (∃ y, (takeV m start n l st).items[v]? = some y ∧ 0 < y.done) ∨ (∃ d ∈ (takeV m start n l st).out, d.off = (v : Int)) ∨ n ≤ (takeV m start n l st).out.length) ∧
    (∀ j, j ∉ l → (takeV m start n l st).items[j]? = st.items[j]?) ∧ (∀ d ∈ st.out, d ∈ (takeV m start n l st).out)
  | [], st, _, _ => ⟨fun d hd => .inl hd, fun v hv => by simp at hv, fun _ _ => rfl, fun _ h => h⟩
  | v :: r, st, hnd, hc => by
    obtain ⟨x, hx, hp⟩ := hc v (by simp)
    have hlt := (List.getElem?_eq_some_iff.1 hx).1
    obtain ⟨hvr, hnr⟩ := List.nodup_cons.1 hnd
    have hvis : visit m start st v = recvOne m start st v x := by simp [visit, hx]
    by_cases hn : n ≤ st.out.length
    · have e : takeV m start n (v :: r) st = st := takeV_full hn _
      rw [e]
      exact ⟨fun d hd => .inl hd, fun _ _ => .inr (.inr hn), fun _ _ => rfl, fun _ h => h⟩
    · have eT : takeV m start n (v :: r) st = takeV m start n r (recvOne m start st v x) := by simp [takeV, hn, hvis]
      rw [eT]
      have hne : ∀ u ∈ r, u ≠ v := fun u hu e => hvr (e ▸ hu)
      have hother : ∀ j, j ≠ v → (recvOne m start st v x).items[j]? = st.items[j]? := fun j hj => by rw [← hvis]; exact visit_items hj
      have ih := take_mem (m := m) (start := start) (n := n) r (recvOne m start st v x) hnr (fun u hu => by
        obtain ⟨y, hy, hq⟩ := hc u (by simp [hu])
        exact ⟨y, by rw [hother u (hne u hu)]; exact hy, hq⟩)
      obtain ⟨i1, i2, i3, i4⟩ := ih
      have hv3 := i3 v hvr
      rcases recvOne_not (m := m) (start := start) (st := st) hp with ⟨_, e⟩ | ⟨_, e⟩
      · have ei : (recvOne m start st v x).items[v]? = some { x with done := 2 } := by rw [e]; simp [hlt]
        have eo : (recvOne m start st v x).out = st.out := by rw [e]
        refine ⟨fun d hd => ?_, fun u hu => ?_, fun j hj => ?_, fun d hd => i4 d (by rw [eo]; exact hd)⟩
        · rcases i1 d hd with h | ⟨u, y, hu, hy, h1, h2⟩
          · rw [eo] at h; exact .inl h
          · exact .inr ⟨u, y, by simp [hu], by rw [← hother u (hne u hu)]; exact hy, h1, h2⟩
        · rcases List.mem_cons.1 hu with rfl | hu
          · exact .inl ⟨_, by rw [hv3, ei], by simp⟩
          · exact i2 u hu
        · have hj1 : j ≠ v := fun h => hj (by simp [h])
          rw [i3 j (fun h => hj (by simp [h])), hother j hj1]
      · have ei : (recvOne m start st v x).items[v]? = some { x with tries := wrap64 (x.tries + 1), till := m.time + m.c.l } := by rw [e]; simp [hlt]
        have eo : (recvOne m start st v x).out = st.out ++ [⟨v, wrap64 (x.tries + 1), m.bodies.getD v ⟨#[]⟩⟩] := by rw [e]
        refine ⟨fun d hd => ?_, fun u hu => ?_, fun j hj => ?_, fun d hd => i4 d (by rw [eo]; simp [hd])⟩
        · rcases i1 d hd with h | ⟨u, y, hu, hy, h1, h2⟩
          · rw [eo] at h
            rcases List.mem_append.1 h with h | h
            · exact .inl h
            · simp at h
              subst h
              exact .inr ⟨v, x, by simp, hx, rfl, by rw [hv3, ei]⟩
          · exact .inr ⟨u, y, by simp [hu], by rw [← hother u (hne u hu)]; exact hy, h1, h2⟩
        · rcases List.mem_cons.1 hu with rfl | hu
          · exact .inr (.inl ⟨_, i4 _ (by rw [eo]; simp; exact .inr rfl), rfl⟩)
          · exact i2 u hu
        · have hj1 : j ≠ v := fun h => hj (by simp [h])
          rw [i3 j (fun h => hj (by simp [h])), hother j hj1]

/-- behind the longest times no lease or delay is left -/
def FreeG (m : MQ) (g : MG) : Prop := ∀ (v : Nat) x, g.items[v]? = some x → ¬ 0 < x.done → x.till ≤ m.time ∧ x.after ≤ m.time

theorem mem_cands {m : MQ} {g : MG} {k v : Nat} {x : It} (hx : g.items[v]? = some x) (hlt : v < k) (hp : passed m g.start v x = false) : v ∈ againTo m g k ++ newTo m g k := by
  have hc : candB m g v = true := by simp [candB, hx, hp]
  rw [List.mem_append]
  by_cases h : x.tries = 0
  · right
    have hf : freshB g.items v = true := by unfold freshB; rw [hx]; simp [h]
    simp only [newTo, List.mem_filter, List.mem_range]
    exact ⟨⟨hlt, hf⟩, hc⟩
  · left
    have hf : triedB g.items v = true := by unfold triedB; rw [hx]; simp [h]
    simp only [againTo, List.mem_filter, List.mem_range]
    exact ⟨⟨hlt, hf⟩, hc⟩

/-- a Receive that delivers nothing: all is done -/
theorem recv_none {m : MQ} {g : MG} {n : Int} (hl : g.items.length = m.bodies.length) (h1 : 1 ≤ n) (hf : FreeG m g) (ho : (recvAll m g n).out = []) {v : Nat} {x : It} (hx : (recvAll m g n).items[v]? = some x) (h2 : m.floor ≤ v) (h3 : g.start ≤ v) : 0 < x.done := by
  have e := recvAll_take (m := m) (g := g) (n := n) hl
  obtain ⟨i1, i2, i3, _⟩ := take_mem (m := m) (start := g.start) (n := n) (againTo m g m.bodies.length ++ newTo m g m.bodies.length) ⟨g.items, g.dead, m.changes, []⟩ (take_nodup m g _) (fun v hv => take_cand hv)
  rw [← e] at i1 i2 i3
  by_cases hv : v ∈ againTo m g m.bodies.length ++ newTo m g m.bodies.length
  · rcases i2 v hv with ⟨y, hy, hd⟩ | ⟨d, hd, _⟩ | h
    · rw [hx] at hy; cases hy; exact hd
    · rw [ho] at hd; simp at hd
    · rw [ho] at h; simp at h; omega
  · have hx0 := i3 v hv
    rw [hx] at hx0
    by_cases hd : 0 < x.done
    · exact hd
    · exfalso
      obtain ⟨f1, f2⟩ := hf v x hx0.symm hd
      refine hv (mem_cands hx0.symm (by have := (List.getElem?_eq_some_iff.1 hx0.symm).1; simp only at this; omega) ?_)
      simp [passed]
      omega
/-- what was delivered is leased, and not done -/
theorem recv_leased {m : MQ} {g : MG} {n : Int} (hl : g.items.length = m.bodies.length) {d : Dl} (hd : d ∈ (recvAll m g n).out) : ∃ (v : Nat) (x : It), d.off = (v : Int) ∧ (recvAll m g n).items[v]? = some x ∧ ¬ 0 < x.done ∧ x.till = m.time + m.c.l := by
  have e := recvAll_take (m := m) (g := g) (n := n) hl
  obtain ⟨i1, _, _, _⟩ := take_mem (m := m) (start := g.start) (n := n) (againTo m g m.bodies.length ++ newTo m g m.bodies.length) ⟨g.items, g.dead, m.changes, []⟩ (take_nodup m g _) (fun v hv => take_cand hv)
  rw [← e] at i1
  rcases i1 d hd with h | ⟨v, x, hv, hx, h1, h2⟩
  · simp at h
  · obtain ⟨y, hy, hp⟩ := take_cand hv
    have hx' : g.items[v]? = some x := hx
    rw [hx'] at hy
    cases hy
    simp [passed] at hp
    exact ⟨v, _, h1, h2, by simp; omega, rfl⟩

end Go.Proofs.YtockkceclkcgbaaGreatDoor

/- The mathematics of Lively, one round: what was delivered can be acked; what is done grows. -/
namespace Go.Proofs.YtockkceclkcgbaaGreatDoor
open Go.RowKit

theorem pickQ_small {j n : Nat} (h : j < n) : pickQ j n = j := by
  unfold pickQ
  rw [if_neg (by omega), Int.tmod_eq_emod_of_nonneg (by omega)]
  exact Int.emod_eq_of_lt (by omega) (by omega)
theorem pickAt_small {l : List Nat} {j a : Nat} (h : l[j]? = some a) : pickAt l (j : Int) = a := by
  have hj := (List.getElem?_eq_some_iff.1 h).1
  unfold pickAt
  rw [pickQ_small hj]
  simp [List.getD, h]
theorem leasedR_small {time : Int} {items : List It} {l : List Nat} {j a : Nat} {x : It} (h : l[j]? = some a) (hx : items[a]? = some x) (hd : ¬ 0 < x.done) (ht : time < x.till) : leasedR time items l (j : Int) = a := by
  have ht' : ¬ x.till ≤ time := by omega
  unfold leasedR
  rw [pickAt_small h, hx]
  cases l with
  | nil => simp at h
  | cons c r => simp [hd, ht']

theorem cnt_one {m : MQ} {start : Int} {st : RS} {n : Nat} {x : It} (hx : st.items[n]? = some x) : cnt st.items ≤ cnt (recvOne m start st n x).items := by
  cases hp : passed m start n x with
  | true => simp [recvOne, hp]
  | false =>
    have hd : ¬ 0 < x.done := by
      intro hd
      simp [passed, hd] at hp
    rcases recvOne_not (m := m) (start := start) (st := st) hp with ⟨_, e⟩ | ⟨_, e⟩
    · rw [e]
      have := cnt_set st.items n x { x with done := 2 } hx
      simp only [hd, if_false] at this
      simp only at this ⊢
      split at this <;> omega
    · rw [e]
      have := cnt_set st.items n x { x with tries := wrap64 (x.tries + 1), till := m.time + m.c.l } hx
      simp only [hd, if_false] at this
      simp only at this ⊢
      omega
theorem cnt_step {m : MQ} {start : Int} {fr : List Nat} {st : RS} {k : Nat} : cnt st.items ≤ cnt (recvStep m start fr st k).items := by
  unfold recvStep
  cases decide (k < m.bodies.length)
  · simp only [cond_false]
    cases fr[k - m.bodies.length]? with
    | none => exact Nat.le_refl _
    | some n =>
      simp only
      cases hx : st.items[n]? with
      | none => exact Nat.le_refl _
      | some x => exact cnt_one hx
  · simp only [cond_true]
    cases hx : st.items[k]? with
    | none => exact Nat.le_refl _
    | some x =>
      simp only
      cases decide (x.tries = 0)
      · exact cnt_one hx
      · exact Nat.le_refl _
theorem cnt_run {m : MQ} {start : Int} {fr : List Nat} {n : Int} : ∀ (f k : Nat) (st : RS), cnt st.items ≤ cnt (recvRun m start fr n f k st).items
  | 0, _, _ => Nat.le_refl _
  | f + 1, k, st => by
    unfold recvRun
    cases decide (n ≤ st.out.length)
    · exact Nat.le_trans cnt_step (cnt_run f (k + 1) _)
    · exact Nat.le_refl _
theorem cnt_recv {m : MQ} {g : MG} {n : Int} : cnt g.items ≤ cnt (recvAll m g n).items :=
  cnt_run (m := m) (start := g.start) (fr := freshTo g.items g.items.length) (n := n) (m.bodies.length + (freshTo g.items g.items.length).length) 0 ⟨g.items, g.dead, m.changes, []⟩
theorem cnt_ack {items : List It} {a : Nat} {x : It} (hx : items[a]? = some x) (hd : ¬ 0 < x.done) : cnt (items.set a { x with done := 1 }) = cnt items + 1 := by
  have := cnt_set items a x { x with done := 1 } hx
  simp only [hd, if_false] at this
  simp at this
  exact this
theorem cnt_full : ∀ (l : List It), cnt l = l.length → ∀ x ∈ l, 0 < x.done
  | [], _, x, hx => by simp at hx
  | y :: r, h, x, hx => by
    have hr := cnt_le r
    by_cases hy : 0 < y.done
    · have e : cnt (y :: r) = cnt r + 1 := by simp [cnt, hy]
      have h' : cnt r = r.length := by simp at h; omega
      rcases List.mem_cons.1 hx with rfl | hx
      · exact hy
      · exact cnt_full r h' x hx
    · have e : cnt (y :: r) = cnt r := by simp [cnt, hy]
      simp at h
      omega

/-- the first message that a Receive delivered can be acked -/
theorem recv_first {m : MQ} {g : MG} {n : Int} {l : List Nat} (hl : g.items.length = m.bodies.length) (hL : 1 ≤ m.c.l) {d : Dl} {r : List Dl} (ho : (recvAll m g n).out = d :: r) :
    ∃ (a : Nat) (x : It), (recvAll m g n).items[a]? = some x ∧ ¬ 0 < x.done ∧ leasedR m.time (recvAll m g n).items (l ++ offs (recvAll m g n).out) (l.length : Int) = a := by
  obtain ⟨v, x, h1, h2, h3, h4⟩ := recv_leased (m := m) (g := g) (n := n) hl (d := d) (by rw [ho]; simp)
  refine ⟨v, x, h2, h3, leasedR_small ?_ h2 h3 (by rw [h4]; omega)⟩
  rw [ho]
  simp [offs, h1]

end Go.Proofs.YtockkceclkcgbaaGreatDoor

/- The mathematics of Lively: a round in which all that was delivered is acked; what Retain lets go when all is done. -/
namespace Go.Proofs.YtockkceclkcgbaaGreatDoor
open Go.RowKit

/-- behind a Receive: what is not done has no delay; it is leased only if it is among the last delivered from place j on -/
def Left (time : Int) (items : List It) (l : List Nat) : Prop := ∀ (v : Nat) x, items[v]? = some x → ¬ 0 < x.done → x.after ≤ time ∧ (x.till ≤ time ∨ v ∈ l)

theorem left_one {m : MQ} {start : Int} {st : RS} {n : Nat} {x : It} (h : Left m.time st.items (offs st.out)) (hx : st.items[n]? = some x) : Left m.time (recvOne m start st n x).items (offs (recvOne m start st n x).out) := by
  have hlt := (List.getElem?_eq_some_iff.1 hx).1
  cases hp : passed m start n x with
  | true => simp only [recvOne, hp, cond_true]; exact h
  | false =>
    have hpa : x.after ≤ m.time := by simp [passed] at hp; omega
    rcases recvOne_not (m := m) (start := start) (st := st) hp with ⟨_, e⟩ | ⟨_, e⟩
    · rw [e]
      intro v y hy hd
      rw [List.getElem?_set] at hy
      by_cases hv : n = v
      · subst hv
        simp [hlt] at hy
        subst hy
        simp at hd
      · rw [if_neg hv] at hy
        exact h v y hy hd
    · rw [e]
      intro v y hy hd
      rw [List.getElem?_set] at hy
      by_cases hv : n = v
      · subst hv
        simp [hlt] at hy
        subst hy
        exact ⟨hpa, .inr (by simp [offs])⟩
      · rw [if_neg hv] at hy
        obtain ⟨h1, h2⟩ := h v y hy hd
        refine ⟨h1, h2.imp id (fun h3 => ?_)⟩
        simp only [offs, List.map_append, List.mem_append] at h3 ⊢
        exact .inl h3
theorem left_step {m : MQ} {start : Int} {fr : List Nat} {st : RS} {k : Nat} (h : Left m.time st.items (offs st.out)) : Left m.time (recvStep m start fr st k).items (offs (recvStep m start fr st k).out) := by
  unfold recvStep
  cases decide (k < m.bodies.length)
  · simp only [cond_false]
    cases fr[k - m.bodies.length]? with
    | none => exact h
    | some n =>
      simp only
      cases hx : st.items[n]? with
      | none => exact h
      | some x => exact left_one h hx
  · simp only [cond_true]
    cases hx : st.items[k]? with
    | none => exact h
    | some x =>
      simp only
      cases decide (x.tries = 0)
      · exact left_one h hx
      · exact h
theorem left_run {m : MQ} {start : Int} {fr : List Nat} {n : Int} : ∀ (f k : Nat) (st : RS), Left m.time st.items (offs st.out) → Left m.time (recvRun m start fr n f k st).items (offs (recvRun m start fr n f k st).out)
  | 0, _, _, h => h
  | f + 1, k, st, h => by
    unfold recvRun
    cases decide (n ≤ st.out.length)
    · exact left_run f (k + 1) _ (left_step h)
    · exact h
theorem left_recv {m : MQ} {g : MG} {n : Int} (h : FreeG m g) : Left m.time (recvAll m g n).items (offs (recvAll m g n).out) := by
  unfold recvAll
  exact left_run _ _ _ (fun v x hx hd => ⟨(h v x hx hd).2, .inl (h v x hx hd).1⟩)

/-- an ack of the j-th that was delivered -/
theorem rack_items {m : MQ} {k : Nat} {g : MG} {l : List Nat} {j : Nat} (hg : m.groups[k]? = some g) (hl : Left m.time g.items (l.drop j)) (hj : j < l.length) (hb : ∀ n ∈ l, n < g.items.length) :
    ∃ g', (rackM m k g l j).groups[k]? = some g' ∧ g'.start = g.start ∧ g'.items.length = g.items.length ∧ Left m.time g'.items (l.drop (j + 1)) ∧ cnt g.items ≤ cnt g'.items ∧ (∀ x, g.items[l.getD j 0]? = some x → ¬ 0 < x.done → m.time < x.till → cnt g'.items = cnt g.items + 1) ∧
      (rackM m k g l j).time = m.time ∧ (rackM m k g l j).c = m.c ∧ (rackM m k g l j).floor = m.floor ∧ (rackM m k g l j).bodies = m.bodies ∧ (rackM m k g l j).groups.length = m.groups.length ∧ ∀ i g1, i ≠ k → m.groups[i]? = some g1 → (rackM m k g l j).groups[i]? = some g1 := by
  obtain ⟨a, ha⟩ : ∃ a, l[j]? = some a := ⟨_, List.getElem?_eq_getElem hj⟩
  have hab : a < g.items.length := hb a (List.mem_of_getElem? ha)
  obtain ⟨x, hx⟩ : ∃ x, g.items[a]? = some x := ⟨_, List.getElem?_eq_getElem hab⟩
  have hdrop : l.drop j = a :: l.drop (j + 1) := by
    obtain ⟨h1, h2⟩ := List.getElem?_eq_some_iff.1 ha
    rw [List.drop_eq_getElem_cons h1, h2]
  have hget : l.getD j 0 = a := by rw [List.getD_eq_getElem?_getD, ha]; rfl
  by_cases hE : ¬ 0 < x.done ∧ m.time < x.till
  · have hlr := leasedR_small (time := m.time) ha hx hE.1 hE.2
    have e : rackM m k g l j = ackQ m k a x := by
      unfold rackM
      rw [hlr, decide_eq_false (by omega)]
      simp only [cond_false, Int.toNat_natCast, List.getD_eq_getElem?_getD, hx, Option.getD_some]
    rw [e]
    refine ⟨{ g with items := g.items.set a { x with done := 1 } }, by rw [ackQ_group, hg]; simp, rfl, by simp, fun v y hy hd => ?_, by rw [cnt_ack hx hE.1]; omega, fun _ _ _ _ => cnt_ack hx hE.1, rfl, rfl, rfl, rfl, setI_len, fun i g1 hi h1 => by rw [ackQ_group, h1]; exact congrArg some (if_neg (fun e : k = i => hi e.symm))⟩
    have hy' : (g.items.set a { x with done := 1 })[v]? = some y := hy
    rw [List.getElem?_set] at hy'
    by_cases hv : a = v
    · subst hv
      simp [hab] at hy'
      subst hy'
      simp at hd
    · rw [if_neg hv] at hy'
      obtain ⟨h1, h2⟩ := hl v y hy' hd
      refine ⟨h1, h2.imp id (fun h3 => ?_)⟩
      rw [hdrop] at h3
      rcases List.mem_cons.1 h3 with h3 | h3
      · exact absurd h3.symm hv
      · exact h3
  · have e : rackM m k g l j = m := by
      unfold rackM
      have : leasedR m.time g.items l j = -1 := by
        unfold leasedR
        rw [pickAt_small ha, hx]
        cases l with
        | nil => simp at ha
        | cons c r =>
          have : (decide (0 < x.done) || decide (x.till ≤ m.time)) = true := by
            simp only [Bool.or_eq_true, decide_eq_true_eq]
            by_cases h : 0 < x.done
            · exact .inl h
            · exact .inr (by have : ¬ m.time < x.till := fun h2 => hE ⟨h, h2⟩; omega)
          simp [this]
      rw [this]
      rfl
    rw [e]
    refine ⟨g, hg, rfl, rfl, fun v y hy hd => ?_, Nat.le_refl _, fun y hy hd ht => ?_, rfl, rfl, rfl, rfl, rfl, fun _ _ _ h => h⟩
    · obtain ⟨h1, h2⟩ := hl v y hy hd
      refine ⟨h1, ?_⟩
      rcases h2 with h2 | h2
      · exact .inl h2
      · rw [hdrop] at h2
        rcases List.mem_cons.1 h2 with rfl | h2
        · rw [hx] at hy
          cases hy
          exact .inl (by have : ¬ m.time < x.till := fun h3 => hE ⟨hd, h3⟩; omega)
        · exact .inr h2
    · rw [hget, hx] at hy
      cases hy
      exact absurd ⟨hd, ht⟩ hE

/-- a group that is done with all from its start on -/
def AllDone (m : MQ) (g : MG) : Prop := ∀ (v : Nat) x, g.items[v]? = some x → m.floor ≤ v → g.start ≤ v → 0 < x.done

theorem mark_full {m : MQ} {g : MG} (hl : g.items.length = m.bodies.length) (hs : 0 ≤ g.start ∧ g.start ≤ m.bodies.length) (hd : AllDone m g) (hlow : ∀ (n : Nat) x, g.items[n]? = some x → g.start ≤ n → (n : Int) < m.floor → 0 < x.done) : markOf g = m.bodies.length := by
  unfold markOf markAt
  have hall : (g.items.drop g.start.toNat).takeWhile (fun x => decide (0 < x.done)) = g.items.drop g.start.toNat := by
    have hall2 : ∀ x ∈ g.items.drop g.start.toNat, decide (0 < x.done) = true := fun x hx => by
      obtain ⟨j, hj⟩ := List.getElem?_of_mem hx
      rw [List.getElem?_drop] at hj
      by_cases hfl : ((g.start.toNat + j : Nat) : Int) < m.floor
      · exact decide_eq_true (hlow _ x hj (by omega) hfl)
      · exact decide_eq_true (hd _ x hj (by omega) (by omega))
    revert hall2
    generalize g.items.drop g.start.toNat = l
    intro h
    induction l with
    | nil => rfl
    | cons y r ih => rw [List.takeWhile_cons, if_pos (h y (by simp)), ih (fun x hx => h x (by simp [hx]))]
  rw [hall, List.length_drop]
  omega
theorem least_full {m : MQ} (h : ∀ g ∈ m.groups, markOf g = m.bodies.length) : ∀ k, leastTo m k = m.bodies.length
  | 0 => rfl
  | k + 1 => by
    unfold leastTo
    cases hg : m.groups[k]? with
    | none => exact least_full h k
    | some g => simp only; rw [least_full h k, h g (List.mem_of_getElem? hg)]; omega
/-- all groups are done with all: Retain lets all whole segments go -/
theorem retain_full {m : MQ} (h : ∀ g ∈ m.groups, markOf g = m.bodies.length) (hg : 0 < m.groups.length) (hs : 1 ≤ m.c.s) : (m.bodies.length : Int) - (retainM m).floor < m.c.s := by
  have hto : retainTo m = (m.bodies.length : Int).tdiv m.c.s * m.c.s := by unfold retainTo; rw [least_full h]
  have hmod := Int.mul_tdiv_add_tmod (m.bodies.length : Int) m.c.s
  have hlt := Int.tmod_lt_of_pos (m.bodies.length : Int) (show 0 < m.c.s by omega)
  have hmul : m.c.s * (m.bodies.length : Int).tdiv m.c.s = (m.bodies.length : Int).tdiv m.c.s * m.c.s := Int.mul_comm _ _
  unfold retainM
  cases hb : retainB m
  · show (m.bodies.length : Int) - retainTo m < m.c.s
    rw [hto]
    omega
  · unfold retainB at hb
    simp only [Bool.or_eq_true, decide_eq_true_eq] at hb
    rcases hb with hb | hb
    · omega
    · show (m.bodies.length : Int) - m.floor < m.c.s
      rw [hto] at hb
      omega

end Go.Proofs.YtockkceclkcgbaaGreatDoor

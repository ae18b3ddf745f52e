/- The mathematics of Lively: a Receive that delivers nothing leaves nothing that may be delivered. -/
import Derived.Test.YtockkceclkcgbaaGreatDoorT43
import Derived.Test.YtockkceclkcgbaaGreatDoorT34
import Derived.Test.YtockkceclkcgbaaGreatDoorX12
namespace Go.Proofs.YtockkceclkcgbaaGreatDoor
open Go.RowKit

theorem recvOne_not {m : MQ} {start : Int} {st : RS} {v : Nat} {x : It} (hp : passed m start v x = false) :
    (m.c.d ≤ x.tries ∧ recvOne m start st v x = ⟨st.items.set v { x with done := 2 }, st.dead ++ [v], wrap64 (st.ch + 1), st.out⟩) ∨
    (¬ m.c.d ≤ x.tries ∧ recvOne m start st v x = ⟨st.items.set v { x with tries := wrap64 (x.tries + 1), till := m.time + m.c.l }, st.dead, wrap64 (st.ch + 1), st.out ++ [⟨v, wrap64 (x.tries + 1), m.bodies.getD v ⟨#[]⟩⟩]⟩) := by
  unfold recvOne
  rw [hp]
  by_cases h : m.c.d ≤ x.tries
  · left; simp [h]
  · right; simp [h]

/-- what a walk over messages that may be delivered makes of them -/
theorem take_mem {m : MQ} {start n : Int} : ∀ (l : List Nat) (st : RS), l.Nodup → (∀ v ∈ l, ∃ x, st.items[v]? = some x ∧ passed m start v x = false) →
    (∀ d ∈ (takeV m start n l st).out, d ∈ st.out ∨ ∃ v x, v ∈ l ∧ st.items[v]? = some x ∧ d.off = (v : Int) ∧ (takeV m start n l st).items[v]? = some { x with tries := wrap64 (x.tries + 1), till := m.time + m.c.l }) ∧
    (∀ v ∈ l, (∃ y, (takeV m start n l st).items[v]? = some y ∧ 0 < y.done) ∨ (∃ d ∈ (takeV m start n l st).out, d.off = (v : Int)) ∨ n ≤ (takeV m start n l st).out.length) ∧
    (∀ j, j ∉ l → (takeV m start n l st).items[j]? = st.items[j]?) ∧ (∀ d ∈ st.out, d ∈ (takeV m start n l st).out)
  | [], st, _, _ => ⟨fun d hd => .inl hd, fun v hv => by simp at hv, fun _ _ => rfl, fun _ h => h⟩
  | v :: r, st, hnd, hc => by
    obtain ⟨x, hx, hp⟩ := hc v (by simp)
    have hlt := (List.getElem?_eq_some_iff.1 hx).1
    obtain ⟨hvr, hnr⟩ := List.nodup_cons.1 hnd
    have hvis : visit m start st v = recvOne m start st v x := by simp [visit, hx]
    by_cases hn : n ≤ st.out.length
    · have e : takeV m start n (v :: r) st = st := takeV_full hn _
      rw [e]
      exact ⟨fun d hd => .inl hd, fun _ _ => .inr (.inr hn), fun _ _ => rfl, fun _ h => h⟩
    · have eT : takeV m start n (v :: r) st = takeV m start n r (recvOne m start st v x) := by simp [takeV, hn, hvis]
      rw [eT]
      have hne : ∀ u ∈ r, u ≠ v := fun u hu e => hvr (e ▸ hu)
      have hother : ∀ j, j ≠ v → (recvOne m start st v x).items[j]? = st.items[j]? := fun j hj => by rw [← hvis]; exact visit_items hj
      have ih := take_mem (m := m) (start := start) (n := n) r (recvOne m start st v x) hnr (fun u hu => by
        obtain ⟨y, hy, hq⟩ := hc u (by simp [hu])
        exact ⟨y, by rw [hother u (hne u hu)]; exact hy, hq⟩)
      obtain ⟨i1, i2, i3, i4⟩ := ih
      have hv3 := i3 v hvr
      rcases recvOne_not (m := m) (start := start) (st := st) hp with ⟨_, e⟩ | ⟨_, e⟩
      · have ei : (recvOne m start st v x).items[v]? = some { x with done := 2 } := by rw [e]; simp [hlt]
        have eo : (recvOne m start st v x).out = st.out := by rw [e]
        refine ⟨fun d hd => ?_, fun u hu => ?_, fun j hj => ?_, fun d hd => i4 d (by rw [eo]; exact hd)⟩
        · rcases i1 d hd with h | ⟨u, y, hu, hy, h1, h2⟩
          · rw [eo] at h; exact .inl h
          · exact .inr ⟨u, y, by simp [hu], by rw [← hother u (hne u hu)]; exact hy, h1, h2⟩
        · rcases List.mem_cons.1 hu with rfl | hu
          · exact .inl ⟨_, by rw [hv3, ei], by simp⟩
          · exact i2 u hu
        · have hj1 : j ≠ v := fun h => hj (by simp [h])
          rw [i3 j (fun h => hj (by simp [h])), hother j hj1]
      · have ei : (recvOne m start st v x).items[v]? = some { x with tries := wrap64 (x.tries + 1), till := m.time + m.c.l } := by rw [e]; simp [hlt]
        have eo : (recvOne m start st v x).out = st.out ++ [⟨v, wrap64 (x.tries + 1), m.bodies.getD v ⟨#[]⟩⟩] := by rw [e]
        refine ⟨fun d hd => ?_, fun u hu => ?_, fun j hj => ?_, fun d hd => i4 d (by rw [eo]; simp [hd])⟩
        · rcases i1 d hd with h | ⟨u, y, hu, hy, h1, h2⟩
          · rw [eo] at h
            rcases List.mem_append.1 h with h | h
            · exact .inl h
            · simp at h
              subst h
              exact .inr ⟨v, x, by simp, hx, rfl, by rw [hv3, ei]⟩
          · exact .inr ⟨u, y, by simp [hu], by rw [← hother u (hne u hu)]; exact hy, h1, h2⟩
        · rcases List.mem_cons.1 hu with rfl | hu
          · exact .inr (.inl ⟨_, i4 _ (by rw [eo]; simp; exact .inr rfl), rfl⟩)
          · exact i2 u hu
        · have hj1 : j ≠ v := fun h => hj (by simp [h])
          rw [i3 j (fun h => hj (by simp [h])), hother j hj1]

/-- behind the longest times no lease or delay is left -/
def FreeG (m : MQ) (g : MG) : Prop := ∀ (v : Nat) x, g.items[v]? = some x → ¬ 0 < x.done → x.till ≤ m.time ∧ x.after ≤ m.time

theorem mem_cands {m : MQ} {g : MG} {k v : Nat} {x : It} (hx : g.items[v]? = some x) (hlt : v < k) (hp : passed m g.start v x = false) : v ∈ againTo m g k ++ newTo m g k := by
  have hc : candB m g v = true := by simp [candB, hx, hp]
  rw [List.mem_append]
  by_cases h : x.tries = 0
  · right
    have hf : freshB g.items v = true := by unfold freshB; rw [hx]; simp [h]
    simp only [newTo, List.mem_filter, List.mem_range]
    exact ⟨⟨hlt, hf⟩, hc⟩
  · left
    have hf : triedB g.items v = true := by unfold triedB; rw [hx]; simp [h]
    simp only [againTo, List.mem_filter, List.mem_range]
    exact ⟨⟨hlt, hf⟩, hc⟩

/-- a Receive that delivers nothing: all is done -/
theorem recv_none {m : MQ} {g : MG} {n : Int} (hl : g.items.length = m.bodies.length) (h1 : 1 ≤ n) (hf : FreeG m g) (ho : (recvAll m g n).out = []) {v : Nat} {x : It} (hx : (recvAll m g n).items[v]? = some x) (h2 : m.floor ≤ v) (h3 : g.start ≤ v) : 0 < x.done := by
  have e := recvAll_take (m := m) (g := g) (n := n) hl
  obtain ⟨i1, i2, i3, _⟩ := take_mem (m := m) (start := g.start) (n := n) (againTo m g m.bodies.length ++ newTo m g m.bodies.length) ⟨g.items, g.dead, m.changes, []⟩ (take_nodup m g _) (fun v hv => take_cand hv)
  rw [← e] at i1 i2 i3
  by_cases hv : v ∈ againTo m g m.bodies.length ++ newTo m g m.bodies.length
  · rcases i2 v hv with ⟨y, hy, hd⟩ | ⟨d, hd, _⟩ | h
    · rw [hx] at hy; cases hy; exact hd
    · rw [ho] at hd; simp at hd
    · rw [ho] at h; simp at h; omega
  · have hx0 := i3 v hv
    rw [hx] at hx0
    by_cases hd : 0 < x.done
    · exact hd
    · exfalso
      obtain ⟨f1, f2⟩ := hf v x hx0.symm hd
      refine hv (mem_cands hx0.symm (by have := (List.getElem?_eq_some_iff.1 hx0.symm).1; simp only at this; omega) ?_)
      simp [passed]
      omega
/-- what was delivered is leased, and not done -/
theorem recv_leased {m : MQ} {g : MG} {n : Int} (hl : g.items.length = m.bodies.length) {d : Dl} (hd : d ∈ (recvAll m g n).out) : ∃ (v : Nat) (x : It), d.off = (v : Int) ∧ (recvAll m g n).items[v]? = some x ∧ ¬ 0 < x.done ∧ x.till = m.time + m.c.l := by
  have e := recvAll_take (m := m) (g := g) (n := n) hl
  obtain ⟨i1, _, _, _⟩ := take_mem (m := m) (start := g.start) (n := n) (againTo m g m.bodies.length ++ newTo m g m.bodies.length) ⟨g.items, g.dead, m.changes, []⟩ (take_nodup m g _) (fun v hv => take_cand hv)
  rw [← e] at i1
  rcases i1 d hd with h | ⟨v, x, hv, hx, h1, h2⟩
  · simp at h
  · obtain ⟨y, hy, hp⟩ := take_cand hv
    have hx' : g.items[v]? = some x := hx
    rw [hx'] at hy
    cases hy
    simp [passed] at hp
    exact ⟨v, _, h1, h2, by simp; omega, rfl⟩

end Go.Proofs.YtockkceclkcgbaaGreatDoor

/- The mathematics of Lively, one round: what was delivered can be acked; what is done grows. -/
namespace Go.Proofs.YtockkceclkcgbaaGreatDoor
open Go.RowKit

theorem pickQ_small {j n : Nat} (h : j < n) : pickQ j n = j := by
  unfold pickQ
  rw [if_neg (by omega), Int.tmod_eq_emod_of_nonneg (by omega)]
  exact Int.emod_eq_of_lt (by omega) (by omega)
theorem pickAt_small {l : List Nat} {j a : Nat} (h : l[j]? = some a) : pickAt l (j : Int) = a := by
  have hj := (List.getElem?_eq_some_iff.1 h).1
  unfold pickAt
  rw [pickQ_small hj]
  simp [List.getD, h]
theorem leasedR_small {time : Int} {items : List It} {l : List Nat} {j a : Nat} {x : It} (h : l[j]? = some a) (hx : items[a]? = some x) (hd : ¬ 0 < x.done) (ht : time < x.till) : leasedR time items l (j : Int) = a := by
  have ht' : ¬ x.till ≤ time := by omega
  unfold leasedR
  rw [pickAt_small h, hx]
  cases l with
  | nil => simp at h
  | cons c r => simp [hd, ht']

theorem cnt_one {m : MQ} {start : Int} {st : RS} {n : Nat} {x : It} (hx : st.items[n]? = some x) : cnt st.items ≤ cnt (recvOne m start st n x).items := by
  cases hp : passed m start n x with
  | true => simp [recvOne, hp]
  | false =>
    have hd : ¬ 0 < x.done := by
      intro hd
      simp [passed, hd] at hp
    rcases recvOne_not (m := m) (start := start) (st := st) hp with ⟨_, e⟩ | ⟨_, e⟩
    · rw [e]
      have := cnt_set st.items n x { x with done := 2 } hx
      simp only [hd, if_false] at this
      simp only at this ⊢
      split at this <;> omega
    · rw [e]
      have := cnt_set st.items n x { x with tries := wrap64 (x.tries + 1), till := m.time + m.c.l } hx
      simp only [hd, if_false] at this
      simp only at this ⊢
      omega
theorem cnt_step {m : MQ} {start : Int} {fr : List Nat} {st : RS} {k : Nat} : cnt st.items ≤ cnt (recvStep m start fr st k).items := by
  unfold recvStep
  cases decide (k < m.bodies.length)
  · simp only [cond_false]
    cases fr[k - m.bodies.length]? with
    | none => exact Nat.le_refl _
    | some n =>
      simp only
      cases hx : st.items[n]? with
      | none => exact Nat.le_refl _
      | some x => exact cnt_one hx
  · simp only [cond_true]
    cases hx : st.items[k]? with
    | none => exact Nat.le_refl _
    | some x =>
      simp only
      cases decide (x.tries = 0)
      · exact cnt_one hx
      · exact Nat.le_refl _
theorem cnt_run {m : MQ} {start : Int} {fr : List Nat} {n : Int} : ∀ (f k : Nat) (st : RS), cnt st.items ≤ cnt (recvRun m start fr n f k st).items
  | 0, _, _ => Nat.le_refl _
  | f + 1, k, st => by
    unfold recvRun
    cases decide (n ≤ st.out.length)
    · exact Nat.le_trans cnt_step (cnt_run f (k + 1) _)
    · exact Nat.le_refl _
theorem cnt_recv {m : MQ} {g : MG} {n : Int} : cnt g.items ≤ cnt (recvAll m g n).items :=
  cnt_run (m := m) (start := g.start) (fr := freshTo g.items g.items.length) (n := n) (m.bodies.length + (freshTo g.items g.items.length).length) 0 ⟨g.items, g.dead, m.changes, []⟩
theorem cnt_ack {items : List It} {a : Nat} {x : It} (hx : items[a]? = some x) (hd : ¬ 0 < x.done) : cnt (items.set a { x with done := 1 }) = cnt items + 1 := by
  have := cnt_set items a x { x with done := 1 } hx
  simp only [hd, if_false] at this
  simp at this
  exact this
theorem cnt_full : ∀ (l : List It), cnt l = l.length → ∀ x ∈ l, 0 < x.done
  | [], _, x, hx => by simp at hx
  | y :: r, h, x, hx => by
    have hr := cnt_le r
    by_cases hy : 0 < y.done
    · have e : cnt (y :: r) = cnt r + 1 := by simp [cnt, hy]
      have h' : cnt r = r.length := by simp at h; omega
      rcases List.mem_cons.1 hx with rfl | hx
      · exact hy
      · exact cnt_full r h' x hx
    · have e : cnt (y :: r) = cnt r := by simp [cnt, hy]
      simp at h
      omega

/-- the first message that a Receive delivered can be acked -/
theorem recv_first {m : MQ} {g : MG} {n : Int} {l : List Nat} (hl : g.items.length = m.bodies.length) (hL : 1 ≤ m.c.l) {d : Dl} {r : List Dl} (ho : (recvAll m g n).out = d :: r) :
    ∃ (a : Nat) (x : It), (recvAll m g n).items[a]? = some x ∧ ¬ 0 < x.done ∧ leasedR m.time (recvAll m g n).items (l ++ offs (recvAll m g n).out) (l.length : Int) = a := by
  obtain ⟨v, x, h1, h2, h3, h4⟩ := recv_leased (m := m) (g := g) (n := n) hl (d := d) (by rw [ho]; simp)
  refine ⟨v, x, h2, h3, leasedR_small ?_ h2 h3 (by rw [h4]; omega)⟩
  rw [ho]
  simp [offs, h1]

end Go.Proofs.YtockkceclkcgbaaGreatDoor

/- The mathematics of Again: how long the log behind a Compact is; groups that received one after the other. -/
namespace Go.Proofs.YtockkceclkcgbaaGreatDoor
open Go.RowKit

def deadCost (l : List Dl) : Nat := (l.map (fun x => 8 + x.body.size)).sum
def keptCost (G : Nat) (l : List ByteArray) : Nat := (l.map (fun b => 8 + b.size + 4 * G)).sum
def grpCost (m : MQ) (l : List MG) : Nat := (l.map (fun g => 32 + g.name.size + deadCost (g.dead.map (deadOf m g)))).sum
theorem deadCost_snoc {l : List Dl} {k : Nat} {x : Dl} (h : l[k]? = some x) : deadCost (l.take (k + 1)) = deadCost (l.take k) + (8 + x.body.size) := by
  obtain ⟨hl, rfl⟩ := List.getElem?_eq_some_iff.1 h
  rw [List.take_succ_eq_append_getElem hl]
  unfold deadCost
  rw [List.map_append, List.sum_append]
  rfl
theorem keptCost_snoc {G : Nat} {l : List ByteArray} {k : Nat} {x : ByteArray} (h : l[k]? = some x) : keptCost G (l.take (k + 1)) = keptCost G (l.take k) + (8 + x.size + 4 * G) := by
  obtain ⟨hl, rfl⟩ := List.getElem?_eq_some_iff.1 h
  rw [List.take_succ_eq_append_getElem hl]
  unfold keptCost
  rw [List.map_append, List.sum_append]
  rfl
theorem grpCost_snoc {m : MQ} {l : List MG} {k : Nat} {g : MG} (h : l[k]? = some g) : grpCost m (l.take (k + 1)) = grpCost m (l.take k) + (32 + g.name.size + deadCost (g.dead.map (deadOf m g))) := by
  obtain ⟨hl, rfl⟩ := List.getElem?_eq_some_iff.1 h
  rw [List.take_succ_eq_append_getElem hl]
  unfold grpCost
  rw [List.map_append, List.sum_append]
  rfl
theorem dead_bytes (l : List Dl) : (l.flatMap deadB).length ≤ deadCost l := by
  induction l with
  | nil => simp [deadCost]
  | cons x r ih =>
    have h3 : x.body.data.toList.length = x.body.size := Array.length_toList
    unfold deadCost at ih ⊢
    simp only [List.flatMap_cons, List.length_append, List.length_cons, deadB, textB, encN_length, List.map_cons, List.sum_cons]
    omega
theorem kept_bytes (G : Nat) (l : List ByteArray) : (l.flatMap textB).length + 4 * G * l.length ≤ keptCost G l := by
  induction l with
  | nil => simp [keptCost]
  | cons x r ih =>
    have h3 : x.data.toList.length = x.size := Array.length_toList
    unfold keptCost at ih ⊢
    simp only [List.flatMap_cons, List.length_append, List.length_cons, textB, List.map_cons, List.sum_cons]
    rw [Nat.mul_add]
    omega
theorem flat_perm {α : Type} (f : α → Bs) {a b : List α} (h : a.Perm b) : (a.flatMap f).length = (b.flatMap f).length := (h.flatMap_right f).length_eq
theorem grp_bytes {m : MQ} {q : Core} {N : Nat} (hN : ∀ g ∈ m.groups, (q.stop - q.first (coreG m g)).toNat ≤ N) : ∀ l : List MG, (∀ g ∈ l, g ∈ m.groups) → ((l.map (fun g => (g.name, coreG m g))).flatMap (groupB q)).length ≤ grpCost m l + N * l.length
  | [], _ => by simp [grpCost]
  | g :: r, h => by
    have ih := grp_bytes hN r (fun x hx => h x (by simp [hx]))
    have h1 := hN g (h g (by simp))
    have h2 := dead_bytes (g.dead.map (deadOf m g))
    have h3 : g.name.data.toList.length = g.name.size := Array.length_toList
    have h4 : (coreG m g).dead = g.dead.map (deadOf m g) := rfl
    unfold grpCost at ih ⊢
    simp only [List.map_cons, List.flatMap_cons, List.length_append, List.length_cons, List.sum_cons, groupB, textB, encN_length, tries_len, h4]
    rw [Nat.mul_add]
    omega
/-- the log behind a Compact is not too long -/
theorem compact_len {m : MQ} (hok : m.Ok) (hcok : COk m.c (coreM m)) : (compL m.c (coreM m)).length ≤ 64 + keptCost m.groups.length (m.bodies.drop m.floor.toNat) + grpCost m m.groups := by
  have hgs : (coreM m).gs = m.groups.map (fun g => (g.name, coreG m g)) := rfl
  have hb : (coreM m).bodies = m.bodies.drop m.floor.toNat := rfl
  have h1 := flat_perm (groupB (coreM m)) (sortG_perm hcok.once)
  rw [hgs] at h1
  have hst := coreM_stop hok
  have hfl := hok.fl
  have h2 := grp_bytes (m := m) (q := coreM m) (N := (m.bodies.drop m.floor.toNat).length) (fun g hg => by
    have : m.floor ≤ (coreM m).first (coreG m g) := by
      show m.floor ≤ max m.floor _
      omega
    rw [hst, List.length_drop]
    omega) m.groups (fun _ h => h)
  have h3 := kept_bytes m.groups.length (m.bodies.drop m.floor.toNat)
  have hl : (compL m.c (coreM m)).length = 12 + (snapQ (coreM m)).length := by unfold compL; rw [recB_length]; omega
  rw [hl]
  unfold snapQ snapB
  simp only [List.length_append, encN_length, hb, h1]
  have h4 : 4 * m.groups.length * (m.bodies.drop m.floor.toNat).length = 4 * ((m.bodies.drop m.floor.toNat).length * m.groups.length) := by rw [Nat.mul_assoc, Nat.mul_comm m.groups.length]
  omega

/-- groups of a queue that was opened anew received, one after the other -/
structure Served (q Q : MQ) (k : Nat) : Prop where
  c : Q.c = q.c
  bodies : Q.bodies = q.bodies
  names : Q.names = q.names
  rest : ∀ j, k ≤ j → Q.groups[j]? = q.groups[j]?
theorem served_zero (q : MQ) : Served q q 0 := ⟨rfl, rfl, rfl, fun _ _ => rfl⟩
theorem served_next {q Q : MQ} {k : Nat} {g : MG} (h : Served q Q k) (hg : q.groups[k]? = some g) (ha : q.at g.name = some k) : Served q (recvM Q g.name 32) (k + 1) ∧ recvE Q g.name 32 = 0 ∧ doneE Q g.name = 0 ∧ deadL Q g.name = g.dead.map (deadOf q g) := by
  have hQg : Q.groups[k]? = some g := (h.rest k (Nat.le_refl _)).trans hg
  have hQa : Q.at g.name = some k := by unfold MQ.at at ha ⊢; rw [h.names]; exact ha
  obtain ⟨e1, _, e3⟩ := recvM_at (n := 32) hQa hQg (by decide) (by decide)
  refine ⟨?_, e3, by simp [doneE, hQa], ?_⟩
  · rw [e1]
    refine ⟨h.c, h.bodies, ?_, fun j hj => ?_⟩
    · have := setG_ns (m := Q) (k := k) (st := recvAll Q g 32)
      have h2 := congrArg (List.map Prod.fst) this
      simp only [List.map_map] at h2
      exact h2.trans h.names
    · rw [setG_group]
      cases hj2 : Q.groups[j]? with
      | none => rw [← h.rest j (by omega), hj2]; rfl
      | some g1 =>
        rw [Option.map_some, if_neg (by omega), ← h.rest j (by omega), hj2]
  · simp only [deadL, hQa, hQg]
    refine List.map_congr_left (fun n _ => ?_)
    unfold deadOf
    rw [h.bodies]

end Go.Proofs.YtockkceclkcgbaaGreatDoor

/- The mathematics of look: what a queue tells of its groups, and what was seen of them. -/
import Derived.Test.YtockkceclkcgbaaGreatDoorA39
import Derived.Test.YtockkceclkcgbaaGreatDoorA15
import Derived.Test.YtockkceclkcgbaaGreatDoorA38
namespace Go.Proofs.YtockkceclkcgbaaGreatDoor
open Go.RowKit

theorem idx_first {s : ByteArray} : ∀ {l : List ByteArray} {k : Nat}, l[k]? = some s → (∀ j x, j < k → l[j]? = some x → x ≠ s) → idx s l = some k
  | [], k, h, _ => by simp at h
  | x :: r, 0, h, _ => by
    simp at h
    simp [idx, h]
  | x :: r, k + 1, h, hn => by
    have hx : ¬ x = s := hn 0 x (by omega) rfl
    have ih := idx_first (s := s) (l := r) (k := k) (by simpa using h) (fun j y hj hy => hn (j + 1) y (by omega) (by simpa using hy))
    simp [idx, hx, ih]

theorem nameB_inj {i j : Nat} (hi : i < 6) (hj : j < 6) (h : nameB i = nameB j) : i = j := by
  have e : (nameB i).data = (nameB j).data := by rw [h]
  simp [nameB] at e
  have e2 := congrArg UInt8.toNat e
  simp at e2
  omega

/-- groups bear the names of their numbers -/
def Named (m : MQ) : Prop := ∀ k g, m.groups[k]? = some g → g.name = nameB k
theorem at_name {m : MQ} (hn : Named m) (h6 : m.groups.length ≤ 6) {k : Nat} {g : MG} (hg : m.groups[k]? = some g) : m.at (nameB k) = some k := by
  have hk := (List.getElem?_eq_some_iff.1 hg).1
  refine idx_first (by simp [MQ.names, hg, hn k g hg]) (fun j x hj hx => ?_)
  simp only [MQ.names, List.getElem?_map, Option.map_eq_some_iff] at hx
  obtain ⟨g', hg', rfl⟩ := hx
  rw [hn j g' hg']
  exact fun e => by have := nameB_inj (by omega) (by omega) e; omega

theorem done_has {l : List It} (h0 : ∀ (n : Nat) x, l[n]? = some x → 0 ≤ x.done) (hl : l.length ≤ 400) {n : Nat} {x : It} (hx : l[n]? = some x) : hasFrom (doneTo l l.length) n 0 = decide (0 < x.done) := by
  obtain ⟨_, _, _, i4⟩ := doneTo_inv l (fun x hx => by obtain ⟨n, hn⟩ := List.getElem?_of_mem hx; exact h0 n x hn) (by omega) l.length (Nat.le_refl _)
  have hn := (List.getElem?_eq_some_iff.1 hx).1
  have hd : doneB l (n : Int) = decide (0 < x.done) := by simp [doneB, itemAt_nat, hx]
  have := i4 n
  rw [← hasFrom_in, hd] at this
  by_cases h : 0 < x.done
  · simp only [h, decide_true, and_true] at this ⊢
    exact this.2 (by omega)
  · simp only [h, decide_false, Bool.false_eq_true, and_false, iff_false, Bool.not_eq_true] at this ⊢
    exact this

/-- the first n as they are, the others as they were seen -/
def mixI (l u : List It) (n : Nat) : List It := l.take n ++ u.drop n
theorem mixI_zero (l u : List It) : mixI l u 0 = u := by simp [mixI]
theorem mixI_all (l u : List It) (h : u.length = l.length) : mixI l u l.length = l := by simp [mixI, List.drop_eq_nil_of_le (Nat.le_of_eq h)]
theorem mixI_len (l u : List It) (n : Nat) (h : u.length = l.length) (hn : n ≤ l.length) : (mixI l u n).length = l.length := by simp [mixI]; omega
theorem mixI_at (l u : List It) (n : Nat) (hn : n ≤ l.length) (h : u.length = l.length) (j : Nat) : (mixI l u n)[j]? = if j < n then l[j]? else u[j]? := by
  unfold mixI
  by_cases hj : j < n
  · rw [List.getElem?_append_left (by simp; omega), if_pos hj]
    simp [hj]
  · rw [List.getElem?_append_right (by simp; omega), if_neg hj]
    simp only [List.length_take, List.getElem?_drop]
    congr 1
    omega
theorem mixI_succ (l u : List It) (n : Nat) (x : It) (h : u.length = l.length) (hx : l[n]? = some x) : mixI l u (n + 1) = (mixI l u n).set n x := by
  have hn := (List.getElem?_eq_some_iff.1 hx).1
  apply List.ext_getElem?
  intro j
  rw [mixI_at l u (n + 1) (by omega) h, List.getElem?_set, mixI_at l u n (by omega) h, mixI_len l u n h (by omega)]
  by_cases hj : n = j
  · subst hj
    rw [if_pos (by omega), if_pos rfl, if_pos hn, hx]
  · by_cases hj2 : j < n
    · rw [if_pos (by omega), if_neg hj, if_pos hj2]
    · rw [if_neg (by omega), if_neg hj, if_neg hj2]
theorem mixI_same (l u : List It) (n : Nat) (x : It) (h : u.length = l.length) (hx : l[n]? = some x) (hu : u[n]? = some x) : mixI l u (n + 1) = mixI l u n := by
  have hn := (List.getElem?_eq_some_iff.1 hx).1
  rw [mixI_succ l u n x h hx]
  apply List.ext_getElem?
  intro j
  rw [List.getElem?_set, mixI_len l u n h (by omega)]
  by_cases hj : n = j
  · subst hj
    rw [mixI_at l u n (by omega) h]
    simp [hu, hn]
  · rw [if_neg hj]

/-- the first k groups as they are, the others as they were seen -/
def mixU (m : MQ) (U : Nat → List It) (k : Nat) : Nat → List It := fun j => if j < k then itemsOf m j else U j
theorem mixU_self (m : MQ) (U : Nat → List It) (k : Nat) : mixU m U k k = U k := by simp [mixU]
theorem mixU_succ (m : MQ) (U : Nat → List It) (k : Nat) : updF (mixU m U k) k (itemsOf m k) = mixU m U (k + 1) := by
  funext j
  by_cases h : j = k
  · subst h; simp [updF, mixU]
  · by_cases h2 : j < k
    · simp [updF, mixU, h, h2, Nat.lt_succ_of_lt h2]
    · have : ¬ j < k + 1 := by omega
      simp [updF, mixU, h, h2, this]

/-- is one of the first j deliveries this one? -/
def diedTo (l : List Dl) (x : Dl) (j : Nat) : Bool := (l.take j).any (fun d => decide (d.off = x.off) && decide (d.tr = x.tr) && decide (d.body = x.body))
theorem diedTo_succ {l : List Dl} {x d : Dl} {j : Nat} (h : l[j]? = some d) : diedTo l x (j + 1) = (diedTo l x j || (decide (d.off = x.off) && decide (d.tr = x.tr) && decide (d.body = x.body))) := by
  obtain ⟨h1, h2⟩ := List.getElem?_eq_some_iff.1 h
  unfold diedTo
  rw [List.take_add_one, List.any_append, h]
  simp
theorem diedTo_all {l : List Dl} {x : Dl} (h : x ∈ l) : diedTo l x l.length = true := by
  unfold diedTo
  rw [List.take_length, List.any_eq_true]
  exact ⟨x, h, by simp⟩

end Go.Proofs.YtockkceclkcgbaaGreatDoor

/- What holds of every queue that is played and of what was delivered to its groups; each step keeps it. -/
namespace Go.Proofs.YtockkceclkcgbaaGreatDoor
open Go.RowKit

theorem NiceI.same {m m' : MQ} {start : Int} {l : List It} (h : NiceI m start l) (hc : m'.c = m.c) (hf : m'.floor = m.floor) : NiceI m' start l :=
  ⟨h.done, fun n x hx => by rw [hc]; exact h.tries n x hx, h.since, fun n x hx a b => h.low n x hx a (by rw [← hf]; exact b)⟩
theorem NiceI.sum {m : MQ} {start : Int} {l : List It} (h : NiceI m start l) (hd : m.c.d ≤ 10) (hl : l.length ≤ 400) : tsum l ≤ 4000 := by
  have := tsum_le m.c.d l (fun x hx => by obtain ⟨n, hn⟩ := List.getElem?_of_mem hx; exact (h.tries n x hn).2)
  have h2 : m.c.d.toNat ≤ 10 := by omega
  have : l.length * m.c.d.toNat ≤ 400 * 10 := Nat.mul_le_mul hl h2
  omega

/-- one group, and what was delivered to it -/
structure NiceG (m : MQ) (g : MG) (l : List Nat) : Prop where
  items : NiceI m g.start g.items
  last : ∀ n ∈ l, n < m.bodies.length ∧ g.start ≤ n
  sum : l.length = tsum g.items
structure NiceQ (m : MQ) (L : Nat → List Nat) : Prop where
  named : Named m
  grp : ∀ k g, m.groups[k]? = some g → NiceG m g (L k)
  out : ∀ k, m.groups.length ≤ k → L k = []

theorem okAll_at {m : MQ} {start : Int} : ∀ {r : List Dl} {l : List It} {j : Nat} {d : Dl}, okAll m start l r → r[j]? = some d → okD m start (tookAll m l (r.take j)) d
  | [], _, _, _, _, h => by simp at h
  | e :: r, l, 0, d, ho, h => by simp at h; subst h; exact ho.1
  | e :: r, l, j + 1, d, ho, h => by
    have := okAll_at (r := r) (l := tookI m l e) (j := j) (d := d) ho.2 (by simpa using h)
    simpa [tookAll] using this
theorem tookAll_succ {m : MQ} {r : List Dl} {l : List It} {j : Nat} {d : Dl} (h : r[j]? = some d) : tookAll m l (r.take (j + 1)) = tookI m (tookAll m l (r.take j)) d := by
  rw [List.take_add_one, h, ← tookAll_snoc]
  rfl
theorem okAll_offs {m : MQ} {start : Int} : ∀ {r : List Dl} {l : List It}, okAll m start l r → ∀ d ∈ r, ∃ n : Nat, d.off = n ∧ n < m.bodies.length ∧ start ≤ n
  | [], _, _, d, hd => by simp at hd
  | e :: r, l, ho, d, hd => by
    rcases List.mem_cons.1 hd with rfl | hd
    · obtain ⟨n, x, h1, _, _, h2, h3, _⟩ := ho.1
      exact ⟨n, h1, h3, h2⟩
    · exact okAll_offs ho.2 d hd

def offs (r : List Dl) : List Nat := r.map (fun d => d.off.toNat)
theorem setG_ns {m : MQ} {k : Nat} {st : RS} : (m.setG k st).groups.map (fun g => (g.name, g.start)) = m.groups.map (fun g => (g.name, g.start)) := by
  apply List.ext_getElem?
  intro j
  simp only [List.getElem?_map, setG_group, Option.map_map]
  cases m.groups[j]? with
  | none => rfl
  | some g => by_cases h : k = j <;> simp [h]
theorem setG_glen {m : MQ} {k : Nat} {st : RS} : (m.setG k st).groups.length = m.groups.length := by simp [MQ.setG]
theorem recvM_at {m : MQ} {k : Nat} {g : MG} {n : Int} {s : ByteArray} (ha : m.at s = some k) (hg : m.groups[k]? = some g) (h1 : 1 ≤ n) (h2 : n ≤ 32) : recvM m s n = m.setG k (recvAll m g n) ∧ recvL m s n = (recvAll m g n).out ∧ recvE m s n = 0 := by
  have hb : btw n 1 32 = true := by simp [btw, h1, h2]
  exact ⟨by simp [recvM, ha, hg, hb], by simp [recvL, ha, hg, hb], by simp [recvE, ha, hb]⟩

theorem nice_setG {m : MQ} {L : Nat → List Nat} {k : Nat} {g : MG} {st : RS} {l : List Nat} (h : NiceQ m L) (hg : m.groups[k]? = some g) (h1 : NiceI m g.start st.items) (h2 : ∀ n ∈ l, n < m.bodies.length ∧ g.start ≤ n) (h3 : l.length = tsum st.items) : NiceQ (m.setG k st) (updF L k l) := by
  have hk := (List.getElem?_eq_some_iff.1 hg).1
  refine ⟨fun j g' hj => ?_, fun j g' hj => ?_, fun j hj => ?_⟩
  · rw [setG_group] at hj
    obtain ⟨g0, h0, rfl⟩ := Option.map_eq_some_iff.1 hj
    have := h.named j g0 h0
    by_cases e : k = j <;> simp [e, this]
  · rw [setG_group] at hj
    obtain ⟨g0, h0, rfl⟩ := Option.map_eq_some_iff.1 hj
    by_cases e : k = j
    · subst e
      rw [hg] at h0
      cases h0
      rw [updF_same]
      simp only [if_true]
      exact ⟨h1.same rfl rfl, h2, h3⟩
    · rw [updF_other _ _ _ (fun x => e x.symm), if_neg e]
      have := h.grp j g0 h0
      exact ⟨this.items.same rfl rfl, this.last, this.sum⟩
  · rw [setG_glen] at hj
    rw [updF_other _ _ _ (by omega)]
    exact h.out j hj
theorem nice_recv {m : MQ} {L : Nat → List Nat} {k : Nat} {g : MG} {n : Int} {B : Int} (h : NiceQ m L) (hf : m.Fit B) (hg : m.groups[k]? = some g) : NiceQ (m.setG k (recvAll m g n)) (updF L k (L k ++ offs (recvAll m g n).out)) := by
  have hd := (good_all hf.ok.good).2.1
  have hG := h.grp k g hg
  have hs := sim_all (n := n) hd hG.items (hf.ok.len g (List.mem_of_getElem? hg))
  refine nice_setG h hg hs.nice (fun a ha => ?_) ?_
  · rcases List.mem_append.1 ha with ha | ha
    · exact hG.last a ha
    · obtain ⟨d, hd, rfl⟩ := List.mem_map.1 ha
      obtain ⟨c, e, e1, e2⟩ := okAll_offs hs.ok d hd
      rw [e]
      exact ⟨by simpa using e1, by simpa using e2⟩
  · rw [List.length_append, hG.sum, hs.sum]
    simp [offs]

/-- one message of one group is changed, not delivered -/
theorem nice_setI {m : MQ} {L : Nat → List Nat} {k n : Nat} {g : MG} {x y : It} (h : NiceQ m L) (hg : m.groups[k]? = some g) (hx : g.items[n]? = some x) (h0 : 0 ≤ y.done) (h1 : y.tries = x.tries) (h2 : 0 < y.done → g.start ≤ n) (h3 : 0 < x.done → 0 < y.done) : NiceQ (m.setI k n y) L := by
  have hG := h.grp k g hg
  refine ⟨fun j g' hj => ?_, fun j g' hj => ?_, fun j hj => h.out j (by rw [setI_len] at hj; exact hj)⟩
  · rw [setI_group] at hj
    obtain ⟨g0, e0, rfl⟩ := Option.map_eq_some_iff.1 hj
    have := h.named j g0 e0
    by_cases e : k = j <;> simp [e, this]
  · rw [setI_group] at hj
    obtain ⟨g0, e0, rfl⟩ := Option.map_eq_some_iff.1 hj
    have hG0 := h.grp j g0 e0
    by_cases e : k = j
    · subst e
      rw [hg] at e0
      cases e0
      simp only [if_true]
      refine ⟨(hG.items.set hx h0 (by rw [h1]; exact hG.items.tries n x hx) h2 h3).same rfl rfl, hG.last, ?_⟩
      have := tsum_set g.items n x y hx
      have := hG.sum
      rw [h1] at *
      simp only
      omega
    · rw [if_neg e]
      exact ⟨hG0.items.same rfl rfl, hG0.last, hG0.sum⟩
theorem nice_changes {m : MQ} {L : Nat → List Nat} {v : Int} (h : NiceQ m L) : NiceQ { m with changes := v } L := ⟨h.named, fun k g hg => ⟨(h.grp k g hg).items.same rfl rfl, (h.grp k g hg).last, (h.grp k g hg).sum⟩, h.out⟩
theorem nice_time {m : MQ} {L : Nat → List Nat} {v : Int} (h : NiceQ m L) : NiceQ { m with time := v } L := ⟨h.named, fun k g hg => ⟨(h.grp k g hg).items.same rfl rfl, (h.grp k g hg).last, (h.grp k g hg).sum⟩, h.out⟩

theorem getE_snoc {l : List It} {n : Nat} {x y : It} (h : (l ++ [y])[n]? = some x) : l[n]? = some x ∨ (n = l.length ∧ x = y) := by
  by_cases hn : n < l.length
  · rw [List.getElem?_append_left hn] at h
    exact .inl h
  · rw [List.getElem?_append_right (by omega)] at h
    by_cases e : n = l.length
    · subst e
      simp at h
      exact .inr ⟨rfl, h.symm⟩
    · rw [List.getElem?_eq_none (by simp; omega)] at h
      cases h
theorem nice_enq {m : MQ} {L : Nat → List Nat} {s : ByteArray} {B : Int} (h : NiceQ m L) (hf : m.Fit B) : NiceQ (menqM m s) L := by
  unfold menqM
  cases decide (menqE m s = 0)
  · exact h
  · simp only [cond_true]
    have hd := (good_all hf.ok.good).2.1
    have hfl := hf.ok.fl
    refine ⟨fun k g' hg' => ?_, fun k g' hg' => ?_, fun k hk => h.out k (by simpa using hk)⟩
    · simp only [List.getElem?_map, Option.map_eq_some_iff] at hg'
      obtain ⟨g, hg, rfl⟩ := hg'
      exact h.named k g hg
    · simp only [List.getElem?_map, Option.map_eq_some_iff] at hg'
      obtain ⟨g, hg, rfl⟩ := hg'
      have hG := h.grp k g hg
      have hl := hf.ok.len g (List.mem_of_getElem? hg)
      refine ⟨⟨fun n x hx => ?_, fun n x hx => ?_, fun n x hx h0 => ?_, fun n x hx h0 h1 => ?_⟩, fun n hn => ?_, ?_⟩
      · rcases getE_snoc hx with hx | ⟨_, rfl⟩
        · exact hG.items.done n x hx
        · simp
      · rcases getE_snoc hx with hx | ⟨_, rfl⟩
        · exact hG.items.tries n x hx
        · simp; omega
      · rcases getE_snoc hx with hx | ⟨_, rfl⟩
        · exact hG.items.since n x hx h0
        · simp at h0
      · rcases getE_snoc hx with hx | ⟨e, rfl⟩
        · exact hG.items.low n x hx h0 h1
        · have h1' : (n : Int) < m.floor := h1
          omega
      · have := hG.last n hn
        simp
        exact ⟨by omega, this.2⟩
      · rw [hG.sum, tsum_append]
        simp [tsum]
theorem nice_grp {m : MQ} {L : Nat → List Nat} {fr : Int} {B : Int} (h : NiceQ m L) (hf : m.Fit B) (hE : mgrpE m (nameB m.groups.length) fr = 0) (hfr : m.floor ≤ fr) : NiceQ (mgrpM m (nameB m.groups.length) fr) L := by
  have hd := (good_all hf.ok.good).2.1
  unfold mgrpM
  simp only [hE, decide_true, cond_true]
  have key : ∀ k g', (m.groups ++ [(⟨nameB m.groups.length, fr, List.replicate m.bodies.length It.zero, []⟩ : MG)])[k]? = some g' → m.groups[k]? = some g' ∨ (k = m.groups.length ∧ g' = ⟨nameB m.groups.length, fr, List.replicate m.bodies.length It.zero, []⟩) := by
    intro k g' hg'
    by_cases hn : k < m.groups.length
    · rw [List.getElem?_append_left hn] at hg'
      exact .inl hg'
    · rw [List.getElem?_append_right (by omega)] at hg'
      by_cases e : k = m.groups.length
      · subst e
        simp at hg'
        exact .inr ⟨rfl, hg'.symm⟩
      · rw [List.getElem?_eq_none (by simp; omega)] at hg'
        cases hg'
  have hz : ∀ (n : Nat) (x : It), (List.replicate m.bodies.length It.zero)[n]? = some x → x = It.zero := fun n x hx => by
    have := List.mem_of_getElem? hx
    exact (List.mem_replicate.1 this).2
  refine ⟨fun k g' hg' => ?_, fun k g' hg' => ?_, fun k hk => h.out k (by simp at hk; omega)⟩
  · rcases key k g' hg' with hg | ⟨rfl, rfl⟩
    · exact h.named k g' hg
    · rfl
  · rcases key k g' hg' with hg | ⟨rfl, rfl⟩
    · exact ⟨(h.grp k g' hg).items.same rfl rfl, (h.grp k g' hg).last, (h.grp k g' hg).sum⟩
    · rw [h.out _ (Nat.le_refl _)]
      refine ⟨⟨fun n x hx => ?_, fun n x hx => ?_, fun n x hx h0 => ?_, fun n x hx h0 h1 => ?_⟩, by simp, by simp [tsum_zeros]⟩
      · rw [hz n x hx]; simp
      · rw [hz n x hx]; simp; omega
      · rw [hz n x hx] at h0; simp at h0
      · have h1' : (n : Int) < m.floor := h1
        simp only at h0
        omega

end Go.Proofs.YtockkceclkcgbaaGreatDoor

/- The mathematics of a run's retain: what goes is done; the floor is a multiple of Segment. -/
namespace Go.Proofs.YtockkceclkcgbaaGreatDoor
open Go.RowKit

def Seg (m : MQ) : Prop := m.floor.tmod m.c.s = 0

theorem leastTo_mark {m : MQ} : ∀ (n k : Nat) (g : MG), k < n → m.groups[k]? = some g → leastTo m n ≤ markOf g
  | 0, _, _, h, _ => by omega
  | n + 1, k, g, h, hg => by
    by_cases e : k = n
    · subst e
      rw [leastTo_step hg]
      exact Nat.min_le_right _ _
    · have ih := leastTo_mark n k g (by omega) hg
      cases hn : m.groups[n]? with
      | none =>
        have h1 := (List.getElem?_eq_some_iff.1 hg).1
        have : leastTo m (n + 1) = leastTo m n := by rw [leastTo, hn]
        omega
      | some g' =>
        rw [leastTo_step hn]
        exact Nat.le_trans (Nat.min_le_left _ _) ih

theorem retainTo_least {m : MQ} (hg : goodC m.c = true) : retainTo m ≤ leastTo m m.groups.length := by
  have hs := good_seg hg
  unfold retainTo
  rw [Int.tdiv_eq_ediv_of_nonneg (by omega)]
  exact Int.ediv_mul_le _ (by omega)

theorem retain_floor {m : MQ} (hg : goodC m.c = true) (hfl : 0 ≤ m.floor ∧ m.floor ≤ m.bodies.length) : (retainM m).floor = m.floor + retainN m ∧ 0 ≤ retainN m ∧ (retainM m).floor ≤ m.bodies.length := by
  have h := retainTo_le m hg
  unfold retainM retainN
  cases hb : retainB m
  · simp only [cond_false]
    simp only [retainB, Bool.or_eq_false_iff, decide_eq_false_iff_not] at hb
    omega
  · simp only [cond_true]
    omega
theorem retain_done {m : MQ} {L : Nat → List Nat} {B : Int} (hq : NiceQ m L) (hf : m.Fit B) {k n : Nat} {g : MG} {x : It} (hg : m.groups[k]? = some g) (hx : g.items[n]? = some x) (h1 : g.start ≤ n) (h2 : (n : Int) < (retainM m).floor) : 0 < x.done := by
  have hG := hq.grp k g hg
  unfold retainM at h2
  cases hb : retainB m
  · rw [hb] at h2
    simp only [cond_false] at h2
    have h3 := retainTo_least hf.ok.good
    have h4 := leastTo_mark m.groups.length k g (List.getElem?_eq_some_iff.1 hg).1 hg
    have h5 : n < markOf g := by omega
    have hst := hf.ok.start g (List.mem_of_getElem? hg)
    unfold markOf at h5
    have h6 := (markAt_not (l := g.items) g.items.length g.start.toNat (by omega)).2 n (by omega) h5
    have hd : doneB g.items (n : Int) = decide (0 < x.done) := by simp [doneB, itemAt_nat, hx]
    rw [hd] at h6
    simpa using h6
  · rw [hb] at h2
    exact hG.items.low n x hx h1 h2
theorem nice_retain {m : MQ} {L : Nat → List Nat} {B : Int} (hq : NiceQ m L) (hf : m.Fit B) : NiceQ (retainM m) L := by
  have key := fun {k n : Nat} {g : MG} {x : It} => retain_done (k := k) (n := n) (g := g) (x := x) hq hf
  unfold retainM at key ⊢
  cases hb : retainB m
  · rw [hb] at key
    simp only [cond_false] at key ⊢
    exact ⟨hq.named, fun k g hg => ⟨⟨(hq.grp k g hg).items.done, (hq.grp k g hg).items.tries, (hq.grp k g hg).items.since, fun n x hx a b => key hg hx a b⟩, (hq.grp k g hg).last, (hq.grp k g hg).sum⟩, hq.out⟩
  · exact hq
theorem seg_retain {m : MQ} (h : Seg m) : Seg (retainM m) := by
  unfold retainM
  cases retainB m
  · simp only [cond_false]
    unfold Seg retainTo
    exact Int.mul_tmod_left _ _
  · exact h
theorem retainM_ns {m : MQ} : (retainM m).groups = m.groups ∧ (retainM m).c = m.c ∧ (retainM m).bodies = m.bodies ∧ (retainM m).time = m.time := by
  unfold retainM
  cases retainB m <;> exact ⟨rfl, rfl, rfl, rfl⟩

end Go.Proofs.YtockkceclkcgbaaGreatDoor

/- A queue that is opened anew of its log: the time is 0, nothing is leased, every message may be delivered; what a queue's log must keep so that a run can crash. -/
namespace Go.Proofs.YtockkceclkcgbaaGreatDoor
open Go.RowKit

def wakeI (x : It) : It := { x with till := 0, after := 0 }
def wakeG (g : MG) : MG := { g with items := g.items.map wakeI }
def wakeM (m : MQ) (ch : Int) : MQ := { m with time := 0, groups := m.groups.map wakeG, changes := ch }

theorem wakeM_group {m : MQ} {ch : Int} {k : Nat} : (wakeM m ch).groups[k]? = (m.groups[k]?).map wakeG := by simp [wakeM]
theorem wakeM_glen {m : MQ} {ch : Int} : (wakeM m ch).groups.length = m.groups.length := by simp [wakeM]
theorem wakeM_ns {m : MQ} {ch : Int} : (wakeM m ch).groups.map (fun g => (g.name, g.start)) = m.groups.map (fun g => (g.name, g.start)) := by
  simp [wakeM, wakeG, Function.comp_def]
theorem wake_items {m : MQ} {ch : Int} {k : Nat} : itemsOf (wakeM m ch) k = (itemsOf m k).map wakeI := by
  unfold itemsOf
  rw [wakeM_group]
  cases m.groups[k]? <;> simp [wakeG]
theorem cnt_wake : ∀ l : List It, cnt (l.map wakeI) = cnt l
  | [] => rfl
  | x :: r => by
    have ih := cnt_wake r
    simp only [cnt, List.map_cons] at ih ⊢
    by_cases h : 0 < x.done
    · have h' : 0 < (wakeI x).done := h
      simp only [List.filter_cons, h, h', decide_true, if_true, List.length_cons, ih]
    · have h' : ¬ 0 < (wakeI x).done := h
      simp only [List.filter_cons, h, h', decide_false, Bool.false_eq_true, if_false, ih]
theorem fit_wake {m : MQ} {B ch : Int} (h : m.Fit B) : (wakeM m ch).Fit B := by
  have ht := h.ok.time
  have hB := h.time
  have key : ∀ g ∈ (wakeM m ch).groups, ∃ g0 ∈ m.groups, g = wakeG g0 := by
    intro g hg
    simp only [wakeM, List.mem_map] at hg
    obtain ⟨g0, h0, rfl⟩ := hg
    exact ⟨g0, h0, rfl⟩
  refine ⟨⟨h.ok.good, fun g hg => ?_, fun g hg n hn => ?_, ⟨by show (0 : Int) ≤ 0; omega, by show (0 : Int) ≤ _; omega⟩, h.ok.fl, fun g hg => ?_⟩, fun g hg => ?_, by show (0 : Int) ≤ B; omega⟩
  · obtain ⟨g0, h0, rfl⟩ := key g hg
    show (g0.items.map wakeI).length = m.bodies.length
    rw [List.length_map]
    exact h.ok.len g0 h0
  · obtain ⟨g0, h0, rfl⟩ := key g hg
    exact h.ok.dead g0 h0 n hn
  · obtain ⟨g0, h0, rfl⟩ := key g hg
    exact h.ok.start g0 h0
  · obtain ⟨g0, h0, rfl⟩ := key g hg
    show g0.dead.length ≤ cnt (g0.items.map wakeI)
    rw [cnt_wake]
    exact h.cnt g0 h0
theorem tsum_wake (l : List It) : tsum (l.map wakeI) = tsum l := by simp [tsum, wakeI, Function.comp_def]
theorem nice_wake {m : MQ} {L : Nat → List Nat} {ch : Int} (h : NiceQ m L) : NiceQ (wakeM m ch) L := by
  have key : ∀ {l : List It} {n : Nat} {x : It}, (l.map wakeI)[n]? = some x → ∃ y, l[n]? = some y ∧ x = wakeI y := by
    intro l n x hx
    simp only [List.getElem?_map, Option.map_eq_some_iff] at hx
    obtain ⟨y, hy, rfl⟩ := hx
    exact ⟨y, hy, rfl⟩
  refine ⟨fun k g hg => ?_, fun k g hg => ?_, fun k hk => h.out k (by rw [wakeM_glen] at hk; exact hk)⟩
  · rw [wakeM_group, Option.map_eq_some_iff] at hg
    obtain ⟨g0, h0, rfl⟩ := hg
    exact h.named k g0 h0
  · rw [wakeM_group, Option.map_eq_some_iff] at hg
    obtain ⟨g0, h0, rfl⟩ := hg
    have hG := h.grp k g0 h0
    refine ⟨⟨fun n x hx => ?_, fun n x hx => ?_, fun n x hx a => ?_, fun n x hx a b => ?_⟩, hG.last, by show (L k).length = tsum (g0.items.map wakeI); rw [tsum_wake]; exact hG.sum⟩
    · obtain ⟨y, hy, rfl⟩ := key hx
      exact hG.items.done n y hy
    · obtain ⟨y, hy, rfl⟩ := key hx
      exact hG.items.tries n y hy
    · obtain ⟨y, hy, rfl⟩ := key hx
      exact hG.items.since n y hy a
    · obtain ⟨y, hy, rfl⟩ := key hx
      exact hG.items.low n y hy a b

/-- What a queue's log must keep: Log answers a text that speaks of the queue as it is behind a crash; Open of a text that speaks of a queue makes that queue, with that log. -/
structure XE {G : Type} (X : World → (Nat → Tag) → Nat → Nat → MQ → G → Prop) (F : GF G) (Ld : World → (Nat → Tag) → Prop) (B : Int) : Prop where
  xl : XL X F B
  ld : ∀ {S : Tag → Prop} {w w' : World} {T T' : Nat → Tag}, Ld w T → Step S w T w' T' → ¬ S .old → Ld w' T'
  log : ∀ (i b : Nat) (m : MQ) {gh : G} (w : World) (T : Nat → Tag), X w T i b m gh → m.Fit B → Calls Tryz.prog 26 #[.pointer (some ⟨b, 0, none⟩)] w fun e w' => ∃ s, e = .returned (.string s) ∧ (∃ T', Step (XT i) w T w' T' ∧ X w' T' i b m gh) ∧
    ∀ (w1 : World) (T1 : Nat → Tag), Ld w1 T1 → Calls Tryz.prog 25 #[.agg m.c.cells, .string s] w1 fun e w' => ∃ b, e = .returned (.tuple #[.pointer (some ⟨b, 0, none⟩), .int .i64 0]) ∧ ∃ T', Step (fun _ => False) w1 T1 w' T' ∧ X w' T' i b (wakeM m 0) gh

end Go.Proofs.YtockkceclkcgbaaGreatDoor

/- The mathematics of look: what a queue tells of its groups, and what was seen of them. -/
import Derived.Test.YtockkceclkcgbaaGreatDoorB13
import Derived.Test.YtockkceclkcgbaaGreatDoorB11
import Derived.Test.YtockkceclkcgbaaGreatDoorB09
namespace Go.Proofs.YtockkceclkcgbaaGreatDoor
open Go.RowKit

theorem idx_first {s : ByteArray} : ∀ {l : List ByteArray} {k : Nat}, l[k]? = some s → (∀ j x, j < k → l[j]? = some x → x ≠ s) → idx s l = some k
  | [], k, h, _ => by simp at h
  | x :: r, 0, h, _ => by
    simp at h
    simp [idx, h]
  | x :: r, k + 1, h, hn => by
    have hx : ¬ x = s := hn 0 x (by omega) rfl
    have ih := idx_first (s := s) (l := r) (k := k) (by simpa using h) (fun j y hj hy => hn (j + 1) y (by omega) (by simpa using hy))
    simp [idx, hx, ih]

theorem nameB_inj {i j : Nat} (hi : i < 6) (hj : j < 6) (h : nameB i = nameB j) : i = j := by
  have e : (nameB i).data = (nameB j).data := by rw [h]
  simp [nameB] at e
  have e2 := congrArg UInt8.toNat e
  simp at e2
  omega

/-- groups bear the names of their numbers -/
def Named (m : MQ) : Prop := ∀ k g, m.groups[k]? = some g → g.name = nameB k
theorem at_name {m : MQ} (hn : Named m) (h6 : m.groups.length ≤ 6) {k : Nat} {g : MG} (hg : m.groups[k]? = some g) : m.at (nameB k) = some k := by
  have hk := (List.getElem?_eq_some_iff.1 hg).1
  refine idx_first (by simp [MQ.names, hg, hn k g hg]) (fun j x hj hx => ?_)
  simp only [MQ.names, List.getElem?_map, Option.map_eq_some_iff] at hx
  obtain ⟨g', hg', rfl⟩ := hx
  rw [hn j g' hg']
  exact fun e => by have := nameB_inj (by omega) (by omega) e; omega

theorem done_has {l : List It} (h0 : ∀ (n : Nat) x, l[n]? = some x → 0 ≤ x.done) (hl : l.length ≤ 400) {n : Nat} {x : It} (hx : l[n]? = some x) : hasFrom (doneTo l l.length) n 0 = decide (0 < x.done) := by
  obtain ⟨_, _, _, i4⟩ := doneTo_inv l (fun x hx => by obtain ⟨n, hn⟩ := List.getElem?_of_mem hx; exact h0 n x hn) (by omega) l.length (Nat.le_refl _)
  have hn := (List.getElem?_eq_some_iff.1 hx).1
  have hd : doneB l (n : Int) = decide (0 < x.done) := by simp [doneB, itemAt_nat, hx]
  have := i4 n
  rw [← hasFrom_in, hd] at this
  by_cases h : 0 < x.done
  · simp only [h, decide_true, and_true] at this ⊢
    exact this.2 (by omega)
  · simp only [h, decide_false, Bool.false_eq_true, and_false, iff_false, Bool.not_eq_true] at this ⊢
    exact this

/-- the first n as they are, the others as they were seen -/
def mixI (l u : List It) (n : Nat) : List It := l.take n ++ u.drop n
theorem mixI_zero (l u : List It) : mixI l u 0 = u := by simp [mixI]
theorem mixI_all (l u : List It) (h : u.length = l.length) : mixI l u l.length = l := by simp [mixI, List.drop_eq_nil_of_le (Nat.le_of_eq h)]
theorem mixI_len (l u : List It) (n : Nat) (h : u.length = l.length) (hn : n ≤ l.length) : (mixI l u n).length = l.length := by simp [mixI]; omega
theorem mixI_at (l u : List It) (n : Nat) (hn : n ≤ l.length) (h : u.length = l.length) (j : Nat) : (mixI l u n)[j]? = if j < n then l[j]? else u[j]? := by
  unfold mixI
  by_cases hj : j < n
  · rw [List.getElem?_append_left (by simp; omega), if_pos hj]
    simp [hj]
  · rw [List.getElem?_append_right (by simp; omega), if_neg hj]
    simp only [List.length_take, List.getElem?_drop]
    congr 1
    omega
theorem mixI_succ (l u : List It) (n : Nat) (x : It) (h : u.length = l.length) (hx : l[n]? = some x) : mixI l u (n + 1) = (mixI l u n).set n x := by
  have hn := (List.getElem?_eq_some_iff.1 hx).1
  apply List.ext_getElem?
  intro j
  rw [mixI_at l u (n + 1) (by omega) h, List.getElem?_set, mixI_at l u n (by omega) h, mixI_len l u n h (by omega)]
  by_cases hj : n = j
  · subst hj
    rw [if_pos (by omega), if_pos rfl, if_pos hn, hx]
  · by_cases hj2 : j < n
    · rw [if_pos (by omega), if_neg hj, if_pos hj2]
    · rw [if_neg (by omega), if_neg hj, if_neg hj2]
theorem mixI_same (l u : List It) (n : Nat) (x : It) (h : u.length = l.length) (hx : l[n]? = some x) (hu : u[n]? = some x) : mixI l u (n + 1) = mixI l u n := by
  have hn := (List.getElem?_eq_some_iff.1 hx).1
  rw [mixI_succ l u n x h hx]
  apply List.ext_getElem?
  intro j
  rw [List.getElem?_set, mixI_len l u n h (by omega)]
  by_cases hj : n = j
  · subst hj
    rw [mixI_at l u n (by omega) h]
    simp [hu, hn]
  · rw [if_neg hj]

/-- the first k groups as they are, the others as they were seen -/
def mixU (m : MQ) (U : Nat → List It) (k : Nat) : Nat → List It := fun j => if j < k then itemsOf m j else U j
theorem mixU_self (m : MQ) (U : Nat → List It) (k : Nat) : mixU m U k k = U k := by simp [mixU]
theorem mixU_succ (m : MQ) (U : Nat → List It) (k : Nat) : updF (mixU m U k) k (itemsOf m k) = mixU m U (k + 1) := by
  funext j
  by_cases h : j = k
  · subst h; simp [updF, mixU]
  · by_cases h2 : j < k
    · simp [updF, mixU, h, h2, Nat.lt_succ_of_lt h2]
    · have : ¬ j < k + 1 := by omega
      simp [updF, mixU, h, h2, this]

/-- is one of the first j deliveries this one? -/
def diedTo (l : List Dl) (x : Dl) (j : Nat) : Bool := (l.take j).any (fun d => decide (d.off = x.off) && decide (d.tr = x.tr) && decide (d.body = x.body))
theorem diedTo_succ {l : List Dl} {x d : Dl} {j : Nat} (h : l[j]? = some d) : diedTo l x (j + 1) = (diedTo l x j || (decide (d.off = x.off) && decide (d.tr = x.tr) && decide (d.body = x.body))) := by
  obtain ⟨h1, h2⟩ := List.getElem?_eq_some_iff.1 h
  unfold diedTo
  rw [List.take_add_one, List.any_append, h]
  simp
theorem diedTo_all {l : List Dl} {x : Dl} (h : x ∈ l) : diedTo l x l.length = true := by
  unfold diedTo
  rw [List.take_length, List.any_eq_true]
  exact ⟨x, h, by simp⟩

end Go.Proofs.YtockkceclkcgbaaGreatDoor

/- What holds of every queue that is played and of what was delivered to its groups; each step keeps it. -/
namespace Go.Proofs.YtockkceclkcgbaaGreatDoor
open Go.RowKit

theorem NiceI.same {m m' : MQ} {start : Int} {l : List It} (h : NiceI m start l) (hc : m'.c = m.c) (hf : m'.floor = m.floor) : NiceI m' start l :=
  ⟨h.done, fun n x hx => by rw [hc]; exact h.tries n x hx, h.since, fun n x hx a b => h.low n x hx a (by rw [← hf]; exact b)⟩
theorem NiceI.sum {m : MQ} {start : Int} {l : List It} (h : NiceI m start l) (hd : m.c.d ≤ 10) (hl : l.length ≤ 400) : tsum l ≤ 4000 := by
  have := tsum_le m.c.d l (fun x hx => by obtain ⟨n, hn⟩ := List.getElem?_of_mem hx; exact (h.tries n x hn).2)
  have h2 : m.c.d.toNat ≤ 10 := by omega
  have : l.length * m.c.d.toNat ≤ 400 * 10 := Nat.mul_le_mul hl h2
  omega

/-- one group, and what was delivered to it -/
structure NiceG (m : MQ) (g : MG) (l : List Nat) : Prop where
  items : NiceI m g.start g.items
  last : ∀ n ∈ l, n < m.bodies.length ∧ g.start ≤ n
  sum : l.length = tsum g.items
structure NiceQ (m : MQ) (L : Nat → List Nat) : Prop where
  named : Named m
  grp : ∀ k g, m.groups[k]? = some g → NiceG m g (L k)
  out : ∀ k, m.groups.length ≤ k → L k = []

theorem okAll_at {m : MQ} {start : Int} : ∀ {r : List Dl} {l : List It} {j : Nat} {d : Dl}, okAll m start l r → r[j]? = some d → okD m start (tookAll m l (r.take j)) d
  | [], _, _, _, _, h => by simp at h
  | e :: r, l, 0, d, ho, h => by simp at h; subst h; exact ho.1
  | e :: r, l, j + 1, d, ho, h => by
    have := okAll_at (r := r) (l := tookI m l e) (j := j) (d := d) ho.2 (by simpa using h)
    simpa [tookAll] using this
theorem tookAll_succ {m : MQ} {r : List Dl} {l : List It} {j : Nat} {d : Dl} (h : r[j]? = some d) : tookAll m l (r.take (j + 1)) = tookI m (tookAll m l (r.take j)) d := by
  rw [List.take_add_one, h, ← tookAll_snoc]
  rfl
theorem okAll_offs {m : MQ} {start : Int} : ∀ {r : List Dl} {l : List It}, okAll m start l r → ∀ d ∈ r, ∃ n : Nat, d.off = n ∧ n < m.bodies.length ∧ start ≤ n
  | [], _, _, d, hd => by simp at hd
  | e :: r, l, ho, d, hd => by
    rcases List.mem_cons.1 hd with rfl | hd
    · obtain ⟨n, x, h1, _, _, h2, h3, _⟩ := ho.1
      exact ⟨n, h1, h3, h2⟩
    · exact okAll_offs ho.2 d hd

def offs (r : List Dl) : List Nat := r.map (fun d => d.off.toNat)
theorem setG_ns {m : MQ} {k : Nat} {st : RS} : (m.setG k st).groups.map (fun g => (g.name, g.start)) = m.groups.map (fun g => (g.name, g.start)) := by
  apply List.ext_getElem?
  intro j
  simp only [List.getElem?_map, setG_group, Option.map_map]
  cases m.groups[j]? with
  | none => rfl
  | some g => by_cases h : k = j <;> simp [h]
theorem setG_glen {m : MQ} {k : Nat} {st : RS} : (m.setG k st).groups.length = m.groups.length := by simp [MQ.setG]
theorem recvM_at {m : MQ} {k : Nat} {g : MG} {n : Int} {s : ByteArray} (ha : m.at s = some k) (hg : m.groups[k]? = some g) (h1 : 1 ≤ n) (h2 : n ≤ 32) : recvM m s n = m.setG k (recvAll m g n) ∧ recvL m s n = (recvAll m g n).out ∧ recvE m s n = 0 := by
  have hb : btw n 1 32 = true := by simp [btw, h1, h2]
  exact ⟨by simp [recvM, ha, hg, hb], by simp [recvL, ha, hg, hb], by simp [recvE, ha, hb]⟩

theorem nice_setG {m : MQ} {L : Nat → List Nat} {k : Nat} {g : MG} {st : RS} {l : List Nat} (h : NiceQ m L) (hg : m.groups[k]? = some g) (h1 : NiceI m g.start st.items) (h2 : ∀ n ∈ l, n < m.bodies.length ∧ g.start ≤ n) (h3 : l.length = tsum st.items) : NiceQ (m.setG k st) (updF L k l) := by
  have hk := (List.getElem?_eq_some_iff.1 hg).1
  refine ⟨fun j g' hj => ?_, fun j g' hj => ?_, fun j hj => ?_⟩
  · rw [setG_group] at hj
    obtain ⟨g0, h0, rfl⟩ := Option.map_eq_some_iff.1 hj
    have := h.named j g0 h0
    by_cases e : k = j <;> simp [e, this]
  · rw [setG_group] at hj
    obtain ⟨g0, h0, rfl⟩ := Option.map_eq_some_iff.1 hj
    by_cases e : k = j
    · subst e
      rw [hg] at h0
      cases h0
      rw [updF_same]
      simp only [if_true]
      exact ⟨h1.same rfl rfl, h2, h3⟩
    · rw [updF_other _ _ _ (fun x => e x.symm), if_neg e]
      have := h.grp j g0 h0
      exact ⟨this.items.same rfl rfl, this.last, this.sum⟩
  · rw [setG_glen] at hj
    rw [updF_other _ _ _ (by omega)]
    exact h.out j hj
theorem nice_recv {m : MQ} {L : Nat → List Nat} {k : Nat} {g : MG} {n : Int} {B : Int} (h : NiceQ m L) (hf : m.Fit B) (hg : m.groups[k]? = some g) : NiceQ (m.setG k (recvAll m g n)) (updF L k (L k ++ offs (recvAll m g n).out)) := by
  have hd := (good_all hf.ok.good).2.1
  have hG := h.grp k g hg
  have hs := sim_all (n := n) hd hG.items (hf.ok.len g (List.mem_of_getElem? hg))
  refine nice_setG h hg hs.nice (fun a ha => ?_) ?_
  · rcases List.mem_append.1 ha with ha | ha
    · exact hG.last a ha
    · obtain ⟨d, hd, rfl⟩ := List.mem_map.1 ha
      obtain ⟨c, e, e1, e2⟩ := okAll_offs hs.ok d hd
      rw [e]
      exact ⟨by simpa using e1, by simpa using e2⟩
  · rw [List.length_append, hG.sum, hs.sum]
    simp [offs]

/-- one message of one group is changed, not delivered -/
theorem nice_setI {m : MQ} {L : Nat → List Nat} {k n : Nat} {g : MG} {x y : It} (h : NiceQ m L) (hg : m.groups[k]? = some g) (hx : g.items[n]? = some x) (h0 : 0 ≤ y.done) (h1 : y.tries = x.tries) (h2 : 0 < y.done → g.start ≤ n) (h3 : 0 < x.done → 0 < y.done) : NiceQ (m.setI k n y) L := by
  have hG := h.grp k g hg
  refine ⟨fun j g' hj => ?_, fun j g' hj => ?_, fun j hj => h.out j (by rw [setI_len] at hj; exact hj)⟩
  · rw [setI_group] at hj
    obtain ⟨g0, e0, rfl⟩ := Option.map_eq_some_iff.1 hj
    have := h.named j g0 e0
    by_cases e : k = j <;> simp [e, this]
  · rw [setI_group] at hj
    obtain ⟨g0, e0, rfl⟩ := Option.map_eq_some_iff.1 hj
    have hG0 := h.grp j g0 e0
    by_cases e : k = j
    · subst e
      rw [hg] at e0
      cases e0
      simp only [if_true]
      refine ⟨(hG.items.set hx h0 (by rw [h1]; exact hG.items.tries n x hx) h2 h3).same rfl rfl, hG.last, ?_⟩
      have := tsum_set g.items n x y hx
      have := hG.sum
      rw [h1] at *
      simp only
      omega
    · rw [if_neg e]
      exact ⟨hG0.items.same rfl rfl, hG0.last, hG0.sum⟩
theorem nice_changes {m : MQ} {L : Nat → List Nat} {v : Int} (h : NiceQ m L) : NiceQ { m with changes := v } L := ⟨h.named, fun k g hg => ⟨(h.grp k g hg).items.same rfl rfl, (h.grp k g hg).last, (h.grp k g hg).sum⟩, h.out⟩
theorem nice_time {m : MQ} {L : Nat → List Nat} {v : Int} (h : NiceQ m L) : NiceQ { m with time := v } L := ⟨h.named, fun k g hg => ⟨(h.grp k g hg).items.same rfl rfl, (h.grp k g hg).last, (h.grp k g hg).sum⟩, h.out⟩

theorem getE_snoc {l : List It} {n : Nat} {x y : It} (h : (l ++ [y])[n]? = some x) : l[n]? = some x ∨ (n = l.length ∧ x = y) := by
  by_cases hn : n < l.length
  · rw [List.getElem?_append_left hn] at h
    exact .inl h
  · rw [List.getElem?_append_right (by omega)] at h
    by_cases e : n = l.length
    · subst e
      simp at h
      exact .inr ⟨rfl, h.symm⟩
    · rw [List.getElem?_eq_none (by simp; omega)] at h
      cases h
theorem nice_enq {m : MQ} {L : Nat → List Nat} {s : ByteArray} {B : Int} (h : NiceQ m L) (hf : m.Fit B) : NiceQ (menqM m s) L := by
  unfold menqM
  cases decide (menqE m s = 0)
  · exact h
  · simp only [cond_true]
    have hd := (good_all hf.ok.good).2.1
    have hfl := hf.ok.fl
    refine ⟨fun k g' hg' => ?_, fun k g' hg' => ?_, fun k hk => h.out k (by simpa using hk)⟩
    · simp only [List.getElem?_map, Option.map_eq_some_iff] at hg'
      obtain ⟨g, hg, rfl⟩ := hg'
      exact h.named k g hg
    · simp only [List.getElem?_map, Option.map_eq_some_iff] at hg'
      obtain ⟨g, hg, rfl⟩ := hg'
      have hG := h.grp k g hg
      have hl := hf.ok.len g (List.mem_of_getElem? hg)
      refine ⟨⟨fun n x hx => ?_, fun n x hx => ?_, fun n x hx h0 => ?_, fun n x hx h0 h1 => ?_⟩, fun n hn => ?_, ?_⟩
      · rcases getE_snoc hx with hx | ⟨_, rfl⟩
        · exact hG.items.done n x hx
        · simp
      · rcases getE_snoc hx with hx | ⟨_, rfl⟩
        · exact hG.items.tries n x hx
        · simp; omega
      · rcases getE_snoc hx with hx | ⟨_, rfl⟩
        · exact hG.items.since n x hx h0
        · simp at h0
      · rcases getE_snoc hx with hx | ⟨e, rfl⟩
        · exact hG.items.low n x hx h0 h1
        · have h1' : (n : Int) < m.floor := h1
          omega
      · have := hG.last n hn
        simp
        exact ⟨by omega, this.2⟩
      · rw [hG.sum, tsum_append]
        simp [tsum]
theorem nice_grp {m : MQ} {L : Nat → List Nat} {fr : Int} {B : Int} (h : NiceQ m L) (hf : m.Fit B) (hE : mgrpE m (nameB m.groups.length) fr = 0) (hfr : m.floor ≤ fr) : NiceQ (mgrpM m (nameB m.groups.length) fr) L := by
  have hd := (good_all hf.ok.good).2.1
  unfold mgrpM
  simp only [hE, decide_true, cond_true]
  have key : ∀ k g', (m.groups ++ [(⟨nameB m.groups.length, fr, List.replicate m.bodies.length It.zero, []⟩ : MG)])[k]? = some g' → m.groups[k]? = some g' ∨ (k = m.groups.length ∧ g' = ⟨nameB m.groups.length, fr, List.replicate m.bodies.length It.zero, []⟩) := by
    intro k g' hg'
    by_cases hn : k < m.groups.length
    · rw [List.getElem?_append_left hn] at hg'
      exact .inl hg'
    · rw [List.getElem?_append_right (by omega)] at hg'
      by_cases e : k = m.groups.length
      · subst e
        simp at hg'
        exact .inr ⟨rfl, hg'.symm⟩
      · rw [List.getElem?_eq_none (by simp; omega)] at hg'
        cases hg'
  have hz : ∀ (n : Nat) (x : It), (List.replicate m.bodies.length It.zero)[n]? = some x → x = It.zero := fun n x hx => by
    have := List.mem_of_getElem? hx
    exact (List.mem_replicate.1 this).2
  refine ⟨fun k g' hg' => ?_, fun k g' hg' => ?_, fun k hk => h.out k (by simp at hk; omega)⟩
  · rcases key k g' hg' with hg | ⟨rfl, rfl⟩
    · exact h.named k g' hg
    · rfl
  · rcases key k g' hg' with hg | ⟨rfl, rfl⟩
    · exact ⟨(h.grp k g' hg).items.same rfl rfl, (h.grp k g' hg).last, (h.grp k g' hg).sum⟩
    · rw [h.out _ (Nat.le_refl _)]
      refine ⟨⟨fun n x hx => ?_, fun n x hx => ?_, fun n x hx h0 => ?_, fun n x hx h0 h1 => ?_⟩, by simp, by simp [tsum_zeros]⟩
      · rw [hz n x hx]; simp
      · rw [hz n x hx]; simp; omega
      · rw [hz n x hx] at h0; simp at h0
      · have h1' : (n : Int) < m.floor := h1
        simp only at h0
        omega

end Go.Proofs.YtockkceclkcgbaaGreatDoor

/- The contract of a run's enqueue. -/
namespace Go.Proofs.YtockkceclkcgbaaGreatDoor
open Go.RowKit

theorem rt_itself' (i : Nat) {t : Tag} (h : t = .run i) : RT i t := by subst h; exact ⟨by simp, by simp, rfl⟩
theorem xt_of_rt' {i j : Nat} : ∀ t, XT j t → ¬ RT i t := fun _ a b => xt_rt b a

/-- the body of the message of number n -/
def bodyN (n : Nat) : ByteArray := ⟨#[109]⟩ ++ strOfNums [65 + (n : Int) / 26 % 26, 65 + (n : Int) % 26]
theorem bodyN_size (n : Nat) : (bodyN n).size = 3 := rfl

theorem info9r : (Tryz.prog.info? 9).map (fun i => (i.zero, i.size, i.bytes)) = some (some (.string ⟨#[]⟩), 1, 16) := by kernel_rfl
theorem infoSeen : (Tryz.prog.info? 67).map (fun i => (i.zero, i.size, i.bytes)) = some (some (.agg #[.int .i64 0, .bool false, .int .i64 0, .int .i64 0]), 4, 32) := by kernel_rfl
def zeroSeen : List Value := [.int .i64 0, .bool false, .int .i64 0, .int .i64 0]
def growR (g : RG) : RG := { g with items := g.items ++ zeroSeen }
def enqR (r : RV) (s : ByteArray) : RV := { r with bodies := r.bodies ++ [.string s], groups := r.groups.map growR }

/-- enqueue has reached group k -/
structure EnqR (w : World) (T : Nat → Tag) (wr : World) (T' : Nat → Tag) (i b bx : Nat) (r : RV) (s : ByteArray) (vB vG : Value) (vi vd : Nat → Value) (k : Nat) : Prop where
  step : Step (RT i) w T wr T'
  blk : Blk wr T' (.run i) b (runCells bx r vB vG) 57
  bod : Row wr T' (.rbod i) 9 1 vB (r.bodies.length + 1) (r.bodies ++ [.string s])
  grp : Row wr T' (.rgrp i) 63 4 vG r.groups.length (groupCells r.groups vi vd)
  its : ∀ j g, r.groups[j]? = some g → (j < k → MemAt wr T' i j (growR g) (r.bodies.length + 1) (vi j) (vd j)) ∧ (k ≤ j → MemAt wr T' i j g r.bodies.length (vi j) (vd j))

theorem EnqR.below {w wr w' : World} {T T' : Nat → Tag} {i b bx : Nat} {r : RV} {s : ByteArray} {vB vG : Value} {vi vd : Nat → Value} {k : Nat} (h : EnqR w T wr T' i b bx r s vB vG vi vd k) (hb : Below wr.heap.size wr w') : EnqR w T w' T' i b bx r s vB vG vi vd k := by
  have hs := step_below (fun _ => False) T' hb
  exact ⟨h.step.trans (step_below _ T' hb), h.blk.step hs (fun h => h), h.bod.step hs (fun h => h), h.grp.step hs (fun h => h), fun j g hj => ⟨fun a => ((h.its j g hj).1 a).step hs (fun h => h) (fun h => h), fun a => ((h.its j g hj).2 a).step hs (fun h => h) (fun h => h)⟩⟩

theorem EnqR.round {w wr w3 : World} {T T' T3 : Nat → Tag} {i b bx : Nat} {r : RV} {s : ByteArray} {vB : Value} {vi vd : Nat → Value} {k gb cap : Nat} {v : Value} {g : RG} (h : EnqR w T wr T' i b bx r s vB (.slice (some ⟨gb, 0, none⟩) r.groups.length cap) vi vd k)
    (hg : r.groups[k]? = some g) (hs : Step (fun t => t = .rseen i k) wr T' w3 T3) (hr : Row w3 T3 (.rseen i k) 67 4 v (r.bodies.length + 1) (g.items ++ zeroSeen)) :
    EnqR w T (w3.setCell ⟨gb, k * 4 + 2, none⟩ v) T3 i b bx r s vB (.slice (some ⟨gb, 0, none⟩) r.groups.length cap) (fun j => if j = k then v else vi j) vd (k + 1) := by
  have hk : k < r.groups.length := (List.getElem?_eq_some_iff.1 hg).1
  have hg3 := h.grp.step hs (by simp)
  have hset := hg3.set (j := k * 4 + 2) (by rw [groupCells_length]; omega) v
  rw [groupCells_items _ _ _ _ _ hk] at hset
  have hs4 : Step (fun t => t = .rgrp i) w3 T3 (w3.setCell ⟨gb, k * 4 + 2, none⟩ v) T3 := step_setCell _ _ _ _ _ (hg3.2 gb rfl)
  refine ⟨(h.step.trans (hs.mono (fun t ht => by rw [ht]; exact ⟨by simp, by simp, rfl⟩))).trans (hs4.mono (fun t ht => by rw [ht]; exact ⟨by simp, by simp, rfl⟩)), (h.blk.step hs (by simp)).step hs4 (by simp), (h.bod.step hs (by simp)).step hs4 (by simp), hset, fun j x hj => ?_⟩
  by_cases hjk : j = k
  · subst hjk
    rw [hg] at hj
    cases hj
    refine ⟨fun _ => ?_, fun h => by omega⟩
    have h0 := (h.its j g hg).2 (Nat.le_refl _)
    exact ⟨by simpa [growR] using hr.step hs4 (by simp), (h0.2.step hs (by simp)).step hs4 (by simp)⟩
  · simp only [if_neg hjk]
    exact ⟨fun a => (((h.its j x hj).1 (by omega)).step hs (by simp [hjk]) (by simp)).step hs4 (by simp) (by simp), fun a => (((h.its j x hj).2 (by omega)).step hs (by simp [hjk]) (by simp)).step hs4 (by simp) (by simp)⟩

theorem EnqR.done {w wr : World} {T T' : Nat → Tag} {i b bx : Nat} {r : RV} {s : ByteArray} {vB vG : Value} {vi vd : Nat → Value} (h : EnqR w T wr T' i b bx r s vB vG vi vd r.groups.length) (hsm : r.bodies.length < 400) (hfew : r.groups.length ≤ 6) :
    RunM wr T' i b bx (enqR r s) := by
  refine ⟨by simp [enqR]; omega, by simp [enqR]; exact hfew, vB, vG, vi, vd, h.blk, ?_, ?_, ?_⟩
  · simpa [enqR] using h.bod
  · have e : groupCells (r.groups.map growR) vi vd = groupCells r.groups vi vd := groupCells_congr _ _ _ _ _ _ (by simp [growR, Function.comp_def]) (fun _ _ => rfl) (fun _ _ => rfl)
    simpa [e, enqR] using h.grp
  · intro k x hx
    simp only [enqR, List.getElem?_map, Option.map_eq_some_iff] at hx
    obtain ⟨g, hg, rfl⟩ := hx
    have h0 := (h.its k g hg).1 (List.getElem?_eq_some_iff.1 hg).1
    simpa [enqR] using h0

attribute [local go_sem] over_cell

/-- what enqueue leaves -/
def enqRun (m : MQ) (r : RV) : RV := bif decide (menqE m (bodyN m.bodies.length) = 0) then enqR r (bodyN m.bodies.length) else r

set_option maxRecDepth 100000 in
set_option maxHeartbeats 8000000 in
theorem renq_any {X : World → (Nat → Tag) → Nat → Nat → MQ → Prop} {B Bm : Int} (hX : XC X Bm) (hle : B ≤ Bm) (i b bx : Nat) (m : MQ) (r : RV) (w : World) (T : Nat → Tag) (hx : X w T i bx m) (hf : m.Fit B) (hr : RunM w T i b bx r) (hok : r.ok = true) (hfl : r.floor = m.floor) (hc : r.c = m.c) (hbl : r.bodies.length = m.bodies.length) :
    Calls Tryz.prog 73 #[.pointer (some ⟨b, 0, none⟩)] w fun e w' => e = .returned (.tuple #[]) ∧ ∃ T', Step (UT i) w T w' T' ∧ X w' T' i bx (menqM m (bodyN m.bodies.length)) ∧ RunM w' T' i b bx (enqRun m r) := by
  have hcv := run_str2 w
  have hflr := hf.ok.fl
  have hkk := (good_all hf.ok.good).2.2.2
  have hsm := hr.small
  have hfew := hr.few
  have hnx : ∀ t, RT i t → ¬ XT i t := fun t a c => xt_rt a c
  obtain ⟨g1, g2, vB, vG, vi, vd, hB, hR, hG, hI⟩ := id hr
  obtain ⟨bo, bc, rfl⟩ := row_form hR
  have c0 := hB.cell (j := 0) rfl
  have c5 := hB.cell (j := 5) rfl
  have lb := hB.lt
  simp only [List.getElem_toArray, List.getElem_cons_succ, List.getElem_cons_zero] at c0 c5
  rw [hbl] at c5
  have a1 := step_alloc w T (.cells #[.int .u8 (65 + (m.bodies.length : Int) / 26 % 26), .int .u8 (65 + (m.bodies.length : Int) % 26)] 5) (fun _ => False)
  have hx1 := hX.step hx a1 (fun _ _ h => h)
  have hr1 := hr.step a1 (fun _ _ h => h)
  rw [hbl] at hsm
  clear hB hR hG hI hr hx
  have hbl' := hide hbl
  clear hbl
  go_enter Tryz.func73, Tryz.ntmps73
  go_wp2_with fail
  refine (hX.enq i bx m (bodyN m.bodies.length) _ T hx1 (hf.mono hle)).mono ?_
  rintro e w2 ⟨rfl, T2, hs2, hx2⟩
  have hr2 := hr1.step hs2 hnx
  have f2 : Step (UT i) w T w2 T2 := (a1.mono (fun _ h => h.elim)).trans (hs2.mono (fun _ h => .inl h))
  obtain ⟨_, _, vB2, vG2, vi2, vd2, hB, hR, hG, hI⟩ := id hr2
  have l2 := hB.lt
  have k4 := hB.cell (j := 4) rfl
  have k6 := hB.cell (j := 6) rfl
  have k9 := hB.cell (j := 9) rfl
  have z9 := hB.frozen 9
  simp only [List.getElem_toArray, List.getElem_cons_succ, List.getElem_cons_zero] at k4 k6 k9
  rw [hc] at k4
  rw [hfl] at k6
  rw [hok] at k9
  clear c0 c5 lb hr1 hx1 a1 hs2 hcv
  have hsz : (bodyN m.bodies.length).size = 3 := rfl
  by_cases h2 : 400 ≤ m.bodies.length
  · have hE : menqE m (bodyN m.bodies.length) = 5 := by simp [menqE, enqY, hsz, h2]
    have d2 : decide ((400 : Int) ≤ (m.bodies.length : Int)) = true := by simp; omega
    have hM : menqM m (bodyN m.bodies.length) = m := by simp [menqM, hE]
    have hN : enqRun m r = r := by simp [enqRun, hE]
    rw [hM] at hx2
    rw [hE]
    clear hB hR hG hI k9 z9
    go_wp2_with fail
    refine wp_region_over (by kernel_rfl) (by kernel_rfl) ?_
    repeat (go_big_quiet_step (fail))
    refine wpQuiet_nil ?_
    rintro _ ⟨x, rfl⟩
    have hb3 := over_below w2 x
    generalize over w2 x = w3 at *
    have g3 := step_below (fun _ => False) T2 hb3
    have hx3 := hX.step hx2 g3 (fun _ _ h => h)
    have hr3 := hr2.step g3 (fun _ _ h => h)
    obtain ⟨_, _, vB3, vG3, vi3, vd3, hB, hR, hG, hI⟩ := id hr3
    have l3 := hB.lt
    have k9 := hB.cell (j := 9) rfl
    have z9 := hB.frozen 9
    simp only [List.getElem_toArray, List.getElem_cons_succ, List.getElem_cons_zero] at k9
    rw [hok] at k9
    obtain ⟨hr4, hs4⟩ := hr3.setOk true
    have e : ({ r with ok := true } : RV) = r := by rw [← hok]
    rw [e] at hr4
    clear hB hR hG hI k4 k6 l2 hr2 hr3
    go_wp2
    refine bodyPost_ret (results_none rfl _ _ _) rfl ?_
    exact ⟨rfl, T2, (f2.trans (g3.mono (fun _ h => h.elim))).trans (hs4.mono (fun _ h => rt_run i h)), by rw [hM]; exact hX.step hx3 hs4 xt_run, by rw [hN]; exact hr4⟩
  by_cases h3 : m.c.k ≤ m.bodies.length - m.floor
  · have hE : menqE m (bodyN m.bodies.length) = 4 := by simp [menqE, enqY, hsz, h2, h3]
    have d2 : decide ((400 : Int) ≤ (m.bodies.length : Int)) = false := by simp; omega
    have d3 : decide (m.c.k ≤ (m.bodies.length : Int) - m.floor) = true := by simp; omega
    have hM : menqM m (bodyN m.bodies.length) = m := by simp [menqM, hE]
    have hN : enqRun m r = r := by simp [enqRun, hE]
    rw [hM] at hx2
    rw [hE]
    clear hB hR hG hI k9 z9
    go_wp2_with fail
    refine wp_region_over (by kernel_rfl) (by kernel_rfl) ?_
    repeat (go_big_quiet_step (fail))
    refine wpQuiet_nil ?_
    rintro _ ⟨x, rfl⟩
    have hb3 := over_below w2 x
    generalize over w2 x = w3 at *
    have g3 := step_below (fun _ => False) T2 hb3
    have hx3 := hX.step hx2 g3 (fun _ _ h => h)
    have hr3 := hr2.step g3 (fun _ _ h => h)
    obtain ⟨_, _, vB3, vG3, vi3, vd3, hB, hR, hG, hI⟩ := id hr3
    have l3 := hB.lt
    have k9 := hB.cell (j := 9) rfl
    have z9 := hB.frozen 9
    simp only [List.getElem_toArray, List.getElem_cons_succ, List.getElem_cons_zero] at k9
    rw [hok] at k9
    obtain ⟨hr4, hs4⟩ := hr3.setOk true
    have e : ({ r with ok := true } : RV) = r := by rw [← hok]
    rw [e] at hr4
    clear hB hR hG hI k4 k6 l2 hr2 hr3
    go_wp2
    refine bodyPost_ret (results_none rfl _ _ _) rfl ?_
    exact ⟨rfl, T2, (f2.trans (g3.mono (fun _ h => h.elim))).trans (hs4.mono (fun _ h => rt_run i h)), by rw [hM]; exact hX.step hx3 hs4 xt_run, by rw [hN]; exact hr4⟩
  have hE : menqE m (bodyN m.bodies.length) = 0 := by simp [menqE, enqY, hsz, h2, h3]
  have d2 : decide ((400 : Int) ≤ (m.bodies.length : Int)) = false := by simp; omega
  have d3 : decide (m.c.k ≤ (m.bodies.length : Int) - m.floor) = false := by simp; omega
  have hN : enqRun m r = enqR r (bodyN m.bodies.length) := by simp [enqRun, hE]
  rw [hE]
  obtain ⟨i0, hi, hz0, hz1, hz2⟩ := info_parts info9r
  obtain ⟨j0, hj, hj0, hj1, hj2⟩ := info_parts infoSeen
  clear hB hR hG hI k9 z9
  go_wp2_with fail
  refine wp_region_over (by kernel_rfl) (by kernel_rfl) ?_
  repeat (go_big_quiet_step (fail))
  refine wpQuiet_nil ?_
  rintro _ ⟨x, rfl⟩
  have hb3 := over_below w2 x
  generalize over w2 x = w3 at *
  have g3 := step_below (fun _ => False) T2 hb3
  have hx3 := hX.step hx2 g3 (fun _ _ h => h)
  have hr3 := hr2.step g3 (fun _ _ h => h)
  have f3 := f2.trans (g3.mono (fun _ h => h.elim))
  have hlen3 : r.bodies.length < 400 := by have := hbl'.out; omega
  obtain ⟨_, _, vB3, vG3, vi3, vd3, hB, hR, hG, hI⟩ := id hr3
  have l3 := hB.lt
  have k9 := hB.cell (j := 9) rfl
  have z9 := hB.frozen 9
  simp only [List.getElem_toArray, List.getElem_cons_succ, List.getElem_cons_zero] at k9
  rw [hok] at k9
  obtain ⟨bo3, bc3, rfl⟩ := row_form hR
  have c5 := hB.cell (j := 5) rfl
  simp only [List.getElem_toArray, List.getElem_cons_succ, List.getElem_cons_zero] at c5
  have hs4 : Step (fun t => t = .run i) w3 T2 (w3.setCell ⟨b, 9, none⟩ (.bool true)) T2 := step_setCell _ _ _ _ _ hB.1
  have e9 : (runCells bx r (.slice bo3 r.bodies.length bc3) vG3).setIfInBounds 9 (.bool true) = runCells bx r (.slice bo3 r.bodies.length bc3) vG3 := by unfold runCells; rw [hok]; rfl
  have hB4 := hB.set 9 (.bool true)
  rw [e9] at hB4
  have hR4 := hR.step hs4 (by simp)
  have hG4 := hG.step hs4 (by simp)
  have hI4 := fun k g hk => (hI k g hk).step hs4 (by simp) (by simp)
  have hx4 := hX.step hx3 hs4 xt_run
  have f4 := f3.trans (hs4.mono (fun _ h => rt_run i h))
  obtain ⟨sb, hsb⟩ : ∃ sb, Hid (bodyN m.bodies.length = sb) := ⟨_, hide rfl⟩
  have hsb' : (⟨#[109]⟩ : ByteArray) ++ strOfNums [65 + (m.bodies.length : Int) / 26 % 26, 65 + (m.bodies.length : Int) % 26] = sb := hsb.out
  rw [hsb'] 
  rw [hsb.out] at hN hx4
  have l9 := hB.lt
  have l4 := hB4.lt
  have c5' := hB4.cell (j := 5) rfl
  simp only [List.getElem_toArray, List.getElem_cons_succ, List.getElem_cons_zero] at c5'
  clear hB hR hG hI k4 k6 l2 hr2 hr3 hx2 hx3 hsb' e9
  go_upto_region 7 with (fail)
  clear c5 k9 z9 l9 l3
  generalize w3.setCell ⟨b, 9, none⟩ (.bool true) = w4 at *
  have hal := step_alloc w4 T2 (.cells #[.string sb] 9) (fun _ => False)
  have hR1 := hR4.step hal (fun h => h)
  have hB1 := hB4.step hal (fun h => h)
  go_wp2_with (first
    | (at_builtin; refine wpList_append_row rfl _ _ 54 rfl 9 i0 (.string ⟨#[]⟩) 1 16 Tryz.underlying54 hi hz0 hz1 hz2 rfl (by decide) _ _ _ rfl hR1 ⟨w4.heap.size, 0, none⟩ 1 1 [.string sb] rfl rfl (cell_one_new _ _ _) (by simp [Value.oneCell']) (by decide) (by unfold maxLen; omega) (by omega) ?_; intro g cap' w5 T5 hR5 hs5; have hB5 := hB1.step hs5 (by simp); have d5 := hB5.cell (j := 5) rfl; have e5 := hB5.frozen 5)
    | go_in)
  have hs6 : Step (fun t => t = .run i) w5 T5 (w5.setCell ⟨b, 5, none⟩ (.slice (some ⟨g, 0, none⟩) (r.bodies.length + 1) cap')) T5 := step_setCell _ _ _ _ _ hB5.1
  have hL : EnqR w4 T2 (w5.setCell ⟨b, 5, none⟩ (.slice (some ⟨g, 0, none⟩) (r.bodies.length + 1) cap')) T5 i b bx r sb (.slice (some ⟨g, 0, none⟩) (r.bodies.length + 1) cap') vG3 vi3 vd3 0 :=
    ⟨(step_alloc _ _ _ _).trans ((hs5.mono (fun t ht => by rw [ht]; exact ⟨by simp, by simp, rfl⟩)).trans (hs6.mono (fun t ht => rt_itself' i ht))), hB5.set 5 _, hR5.step hs6 (by simp), ((hG4.step hal (fun h => h)).step hs5 (by simp)).step hs6 (by simp),
      fun j x hj => ⟨fun h => by omega, fun _ => (((hI4 j x hj).step hal (fun h => h) (fun h => h)).step hs5 (by simp) (by simp)).step hs6 (by simp) (by simp)⟩⟩
  have hrl := hbl'.out
  clear hR1 hB1 hB5 hR5 hs5 hs6 hal d5 e5 hG4 hI4 hR4 hB4 l4 c5'
  generalize w5.setCell ⟨b, 5, none⟩ (.slice (some ⟨g, 0, none⟩) (r.bodies.length + 1) cap') = w6 at *
  go_loopw [7] (fun x wr => ∃ (k : Nat) (T' : Nat → Tag) (vj : Nat → Value), k ≤ r.groups.length ∧ x = .int .i64 k ∧ EnqR w4 T2 wr T' i b bx r sb (.slice (some ⟨g, 0, none⟩) (r.bodies.length + 1) cap') vG3 vj vd3 k) (fun x _ => r.groups.length - (intOf x).toNat)
  case atStart => exact ⟨0, T5, vi3, Nat.zero_le _, rfl, hL⟩
  case round =>
    obtain ⟨k, T', vj, hk, rfl, hI⟩ := hrel
    obtain ⟨go, gc, rfl⟩ := row_form hI.grp
    have c7 := hI.blk.cell (j := 7) rfl
    simp only [List.getElem_toArray, List.getElem_cons_succ, List.getElem_cons_zero] at c7
    by_cases hlt : k < r.groups.length
    · obtain ⟨x, hx⟩ : ∃ x, r.groups[k]? = some x := ⟨_, List.getElem?_eq_getElem hlt⟩
      obtain ⟨gb, gc', e⟩ := row_some hI.grp (by omega)
      cases e
      have d2 := hI.grp.cell (groupCells_at r.groups vj vd3 k x hx).2.2.1
      have hI1 := hI.below (w' := wr.drew.alloc (.cells #[.int .i64 0, .bool false, .int .i64 0, .int .i64 0] 67)) ((Below.refl _ _).drew.alloc (Nat.le_refl _) _)
      obtain ⟨go2, gc2, w7, T7, hrun, hR7, hs7⟩ := run_append_row (P := Tryz.prog) 61 61 67 j0 _ 4 32 Tryz.underlying61 hj hj0 hj1 hj2 rfl (by decide) _ _ _ ((hI1.its k x hx).2 (Nat.le_refl _)).1 ⟨wr.heap.size, 0, none⟩ 1 1 zeroSeen rfl (cells_new5 wr.drew zeroSeen 67) (by simp [zeroSeen, Value.oneCell']) (by decide) (by unfold maxLen; omega) (by omega)
      have hB7 := hI1.blk.step hs7 (by simp)
      have hG7 := hI1.grp.step hs7 (by simp)
      have p7 := hB7.cell (j := 7) rfl
      simp only [List.getElem_toArray, List.getElem_cons_succ, List.getElem_cons_zero] at p7
      have p2 := hG7.cell (groupCells_at r.groups vj vd3 k x hx).2.2.1
      have r2 := hG7.frozen (k * 4 + 2)
      have hfin := hI1.round hx hs7 hR7
      have b1 := hI.blk.lt
      have b2 := hI.grp.lt
      clear hL hI1 hR7 hs7 hB7 hG7 hrl
      go_wp2_with fail
      go_region_law (refine step_append_known rfl _ _ 61 rfl _ _ _ rfl rfl hrun ?_)
      all_goals
        go_wp2
        refine ⟨⟨k + 1, T7, _, by omega, by simp, hfin⟩, by simp [intOf]; omega⟩
    · have hk2 : k = r.groups.length := by omega
      clear hL hrl
      go_wp2
      go_end0
      subst hk2
      have d := hI.done hlen3 hfew
      exact ⟨rfl, T', f4.trans (hI.step.mono (fun _ h => .inr h)), by rw [hsb.out]; exact hX.step hx4 hI.step xt_of_rt', by rw [hN]; exact d⟩

end Go.Proofs.YtockkceclkcgbaaGreatDoor

/- What holds of every queue that is played and of what was delivered to its groups; each step keeps it. -/
import Derived.Test.YtgcbooflhdjnhaaT35
namespace Go.Proofs.Ytgcbooflhdjnhaa
open Go.RowKit

theorem NiceI.same {m m' : MQ} {start : Int} {l : List It} (h : NiceI m start l) (hc : m'.c = m.c) (hf : m'.floor = m.floor) : NiceI m' start l :=
  ⟨h.done, fun n x hx => by rw [hc]; exact h.tries n x hx, h.since, fun n x hx a b => h.low n x hx a (by rw [← hf]; exact b)⟩
theorem NiceI.sum {m : MQ} {start : Int} {l : List It} (h : NiceI m start l) (hd : m.c.d ≤ 10) (hl : l.length ≤ 400) : tsum l ≤ 4000 := by
  have := tsum_le m.c.d l (fun x hx => by obtain ⟨n, hn⟩ := List.getElem?_of_mem hx; exact (h.tries n x hn).2)
  have h2 : m.c.d.toNat ≤ 10 := by omega
  have : l.length * m.c.d.toNat ≤ 400 * 10 := Nat.mul_le_mul hl h2
  omega

/-- one group, and what was delivered to it -/
structure NiceG (m : MQ) (g : MG) (l : List Nat) : Prop where
  items : NiceI m g.start g.items
  last : ∀ n ∈ l, n < m.bodies.length ∧ g.start ≤ n
  sum : l.length = tsum g.items
structure NiceQ (m : MQ) (L : Nat → List Nat) : Prop where
  named : Named m
  grp : ∀ k g, m.groups[k]? = some g → NiceG m g (L k)
  out : ∀ k, m.groups.length ≤ k → L k = []

theorem okAll_at {m : MQ} {start : Int} : ∀ {r : List Dl} {l : List It} {j : Nat} {d : Dl}, okAll m start l r → r[j]? = some d → okD m start (tookAll m l (r.take j)) d
  | [], _, _, _, _, h => by simp at h
  | e :: r, l, 0, d, ho, h => by simp at h; subst h; exact ho.1
  | e :: r, l, j + 1, d, ho, h => by
    have := okAll_at (r := r) (l := tookI m l e) (j := j) (d := d) ho.2 (by simpa using h)
    simpa [tookAll] using this
theorem tookAll_succ {m : MQ} {r : List Dl} {l : List It} {j : Nat} {d : Dl} (h : r[j]? = some d) : tookAll m l (r.take (j + 1)) = tookI m (tookAll m l (r.take j)) d := by
  rw [List.take_add_one, h, ← tookAll_snoc]
  rfl
theorem okAll_offs {m : MQ} {start : Int} : ∀ {r : List Dl} {l : List It}, okAll m start l r → ∀ d ∈ r, ∃ n : Nat, d.off = n ∧ n < m.bodies.length ∧ start ≤ n
  | [], _, _, d, hd => by simp at hd
  | e :: r, l, ho, d, hd => by
    rcases List.mem_cons.1 hd with rfl | hd
    · obtain ⟨n, x, h1, _, _, h2, h3, _⟩ := ho.1
      exact ⟨n, h1, h3, h2⟩
    · exact okAll_offs ho.2 d hd

def offs (r : List Dl) : List Nat := r.map (fun d => d.off.toNat)
theorem setG_ns {m : MQ} {k : Nat} {st : RS} : (m.setG k st).groups.map (fun g => (g.name, g.start)) = m.groups.map (fun g => (g.name, g.start)) := by
  apply List.ext_getElem?
  intro j
  simp only [List.getElem?_map, setG_group, Option.map_map]
  cases m.groups[j]? with
  | none => rfl
  | some g => by_cases h : k = j <;> simp [h]
theorem setG_glen {m : MQ} {k : Nat} {st : RS} : (m.setG k st).groups.length = m.groups.length := by simp [MQ.setG]
theorem recvM_at {m : MQ} {k : Nat} {g : MG} {n : Int} {s : ByteArray} (ha : m.at s = some k) (hg : m.groups[k]? = some g) (h1 : 1 ≤ n) (h2 : n ≤ 32) : recvM m s n = m.setG k (recvAll m g n) ∧ recvL m s n = (recvAll m g n).out ∧ recvE m s n = 0 := by
  have hb : btw n 1 32 = true := by simp [btw, h1, h2]
  exact ⟨by simp [recvM, ha, hg, hb], by simp [recvL, ha, hg, hb], by simp [recvE, ha, hb]⟩

theorem nice_setG {m : MQ} {L : Nat → List Nat} {k : Nat} {g : MG} {st : RS} {l : List Nat} (h : NiceQ m L) (hg : m.groups[k]? = some g) (h1 : NiceI m g.start st.items) (h2 : ∀ n ∈ l, n < m.bodies.length ∧ g.start ≤ n) (h3 : l.length = tsum st.items) : NiceQ (m.setG k st) (updF L k l) := by
  have hk := (List.getElem?_eq_some_iff.1 hg).1
  refine ⟨fun j g' hj => ?_, fun j g' hj => ?_, fun j hj => ?_⟩
  · rw [setG_group] at hj
    obtain ⟨g0, h0, rfl⟩ := Option.map_eq_some_iff.1 hj
    have := h.named j g0 h0
    by_cases e : k = j <;> simp [e, this]
  · rw [setG_group] at hj
    obtain ⟨g0, h0, rfl⟩ := Option.map_eq_some_iff.1 hj
    by_cases e : k = j
    · subst e
      rw [hg] at h0
      cases h0
      rw [updF_same]
      simp only [if_true]
      exact ⟨h1.same rfl rfl, h2, h3⟩
    · rw [updF_other _ _ _ (fun x => e x.symm), if_neg e]
      have := h.grp j g0 h0
      exact ⟨this.items.same rfl rfl, this.last, this.sum⟩
  · rw [setG_glen] at hj
    rw [updF_other _ _ _ (by omega)]
    exact h.out j hj
theorem nice_recv {m : MQ} {L : Nat → List Nat} {k : Nat} {g : MG} {n : Int} {B : Int} (h : NiceQ m L) (hf : m.Fit B) (hg : m.groups[k]? = some g) : NiceQ (m.setG k (recvAll m g n)) (updF L k (L k ++ offs (recvAll m g n).out)) := by
  have hd := (good_all hf.ok.good).2.1
  have hG := h.grp k g hg
  have hs := sim_all (n := n) hd hG.items (hf.ok.len g (List.mem_of_getElem? hg))
  refine nice_setG h hg hs.nice (fun a ha => ?_) ?_
  · rcases List.mem_append.1 ha with ha | ha
    · exact hG.last a ha
    · obtain ⟨d, hd, rfl⟩ := List.mem_map.1 ha
      obtain ⟨c, e, e1, e2⟩ := okAll_offs hs.ok d hd
      rw [e]
      exact ⟨by simpa using e1, by simpa using e2⟩
  · rw [List.length_append, hG.sum, hs.sum]
    simp [offs]

/-- one message of one group is changed, not delivered -/
theorem nice_setI {m : MQ} {L : Nat → List Nat} {k n : Nat} {g : MG} {x y : It} (h : NiceQ m L) (hg : m.groups[k]? = some g) (hx : g.items[n]? = some x) (h0 : 0 ≤ y.done) (h1 : y.tries = x.tries) (h2 : 0 < y.done → g.start ≤ n) (h3 : 0 < x.done → 0 < y.done) : NiceQ (m.setI k n y) L := by
  have hG := h.grp k g hg
  refine ⟨fun j g' hj => ?_, fun j g' hj => ?_, fun j hj => h.out j (by rw [setI_len] at hj; exact hj)⟩
  · rw [setI_group] at hj
    obtain ⟨g0, e0, rfl⟩ := Option.map_eq_some_iff.1 hj
    have := h.named j g0 e0
    by_cases e : k = j <;> simp [e, this]
  · rw [setI_group] at hj
    obtain ⟨g0, e0, rfl⟩ := Option.map_eq_some_iff.1 hj
    have hG0 := h.grp j g0 e0
    by_cases e : k = j
    · subst e
      rw [hg] at e0
      cases e0
      simp only [if_true]
      refine ⟨(hG.items.set hx h0 (by rw [h1]; exact hG.items.tries n x hx) h2 h3).same rfl rfl, hG.last, ?_⟩
      have := tsum_set g.items n x y hx
      have := hG.sum
      rw [h1] at *
      simp only
      omega
    · rw [if_neg e]
      exact ⟨hG0.items.same rfl rfl, hG0.last, hG0.sum⟩
theorem nice_changes {m : MQ} {L : Nat → List Nat} {v : Int} (h : NiceQ m L) : NiceQ { m with changes := v } L := ⟨h.named, fun k g hg => ⟨(h.grp k g hg).items.same rfl rfl, (h.grp k g hg).last, (h.grp k g hg).sum⟩, h.out⟩
theorem nice_time {m : MQ} {L : Nat → List Nat} {v : Int} (h : NiceQ m L) : NiceQ { m with time := v } L := ⟨h.named, fun k g hg => ⟨(h.grp k g hg).items.same rfl rfl, (h.grp k g hg).last, (h.grp k g hg).sum⟩, h.out⟩

theorem getE_snoc {l : List It} {n : Nat} {x y : It} (h : (l ++ [y])[n]? = some x) : l[n]? = some x ∨ (n = l.length ∧ x = y) := by
  by_cases hn : n < l.length
  · rw [List.getElem?_append_left hn] at h
    exact .inl h
  · rw [List.getElem?_append_right (by omega)] at h
    by_cases e : n = l.length
    · subst e
      simp at h
      exact .inr ⟨rfl, h.symm⟩
    · rw [List.getElem?_eq_none (by simp; omega)] at h
      cases h
theorem nice_enq {m : MQ} {L : Nat → List Nat} {s : ByteArray} {B : Int} (h : NiceQ m L) (hf : m.Fit B) : NiceQ (menqM m s) L := by
  unfold menqM
  cases decide (menqE m s = 0)
  · exact h
  · simp only [cond_true]
    have hd := (good_all hf.ok.good).2.1
    have hfl := hf.ok.fl
    refine ⟨fun k g' hg' => ?_, fun k g' hg' => ?_, fun k hk => h.out k (by simpa using hk)⟩
    · simp only [List.getElem?_map, Option.map_eq_some_iff] at hg'
      obtain ⟨g, hg, rfl⟩ := hg'
      exact h.named k g hg
    · simp only [List.getElem?_map, Option.map_eq_some_iff] at hg'
      obtain ⟨g, hg, rfl⟩ := hg'
      have hG := h.grp k g hg
      have hl := hf.ok.len g (List.mem_of_getElem? hg)
      refine ⟨⟨fun n x hx => ?_, fun n x hx => ?_, fun n x hx h0 => ?_, fun n x hx h0 h1 => ?_⟩, fun n hn => ?_, ?_⟩
      · rcases getE_snoc hx with hx | ⟨_, rfl⟩
        · exact hG.items.done n x hx
        · simp
      · rcases getE_snoc hx with hx | ⟨_, rfl⟩
        · exact hG.items.tries n x hx
        · simp; omega
      · rcases getE_snoc hx with hx | ⟨_, rfl⟩
        · exact hG.items.since n x hx h0
        · simp at h0
      · rcases getE_snoc hx with hx | ⟨e, rfl⟩
        · exact hG.items.low n x hx h0 h1
        · have h1' : (n : Int) < m.floor := h1
          omega
      · have := hG.last n hn
        simp
        exact ⟨by omega, this.2⟩
      · rw [hG.sum, tsum_append]
        simp [tsum]
theorem nice_grp {m : MQ} {L : Nat → List Nat} {fr : Int} {B : Int} (h : NiceQ m L) (hf : m.Fit B) (hE : mgrpE m (nameB m.groups.length) fr = 0) (hfr : m.floor ≤ fr) : NiceQ (mgrpM m (nameB m.groups.length) fr) L := by
  have hd := (good_all hf.ok.good).2.1
  unfold mgrpM
  simp only [hE, decide_true, cond_true]
  have key : ∀ k g', (m.groups ++ [(⟨nameB m.groups.length, fr, List.replicate m.bodies.length It.zero, []⟩ : MG)])[k]? = some g' → m.groups[k]? = some g' ∨ (k = m.groups.length ∧ g' = ⟨nameB m.groups.length, fr, List.replicate m.bodies.length It.zero, []⟩) := by
    intro k g' hg'
    by_cases hn : k < m.groups.length
    · rw [List.getElem?_append_left hn] at hg'
      exact .inl hg'
    · rw [List.getElem?_append_right (by omega)] at hg'
      by_cases e : k = m.groups.length
      · subst e
        simp at hg'
        exact .inr ⟨rfl, hg'.symm⟩
      · rw [List.getElem?_eq_none (by simp; omega)] at hg'
        cases hg'
  have hz : ∀ (n : Nat) (x : It), (List.replicate m.bodies.length It.zero)[n]? = some x → x = It.zero := fun n x hx => by
    have := List.mem_of_getElem? hx
    exact (List.mem_replicate.1 this).2
  refine ⟨fun k g' hg' => ?_, fun k g' hg' => ?_, fun k hk => h.out k (by simp at hk; omega)⟩
  · rcases key k g' hg' with hg | ⟨rfl, rfl⟩
    · exact h.named k g' hg
    · rfl
  · rcases key k g' hg' with hg | ⟨rfl, rfl⟩
    · exact ⟨(h.grp k g' hg).items.same rfl rfl, (h.grp k g' hg).last, (h.grp k g' hg).sum⟩
    · rw [h.out _ (Nat.le_refl _)]
      refine ⟨⟨fun n x hx => ?_, fun n x hx => ?_, fun n x hx h0 => ?_, fun n x hx h0 h1 => ?_⟩, by simp, by simp [tsum_zeros]⟩
      · rw [hz n x hx]; simp
      · rw [hz n x hx]; simp; omega
      · rw [hz n x hx] at h0; simp at h0
      · have h1' : (n : Int) < m.floor := h1
        simp only at h0
        omega

end Go.Proofs.Ytgcbooflhdjnhaa

/- Plain facts about sets of ranges: adding a range keeps a set a set, and its numbers are those of both; the gap is the least number that is not in. -/
import Derived.Test.YtockkceclkcgbaaGreatDoorB10
import Derived.Test.YtockkceclkcgbaaGreatDoorB06
namespace Go.Proofs.YtockkceclkcgbaaGreatDoor

def setR : Int → RL → Prop
  | _, [] => True
  | m, r :: t => m < r.1 ∧ r.1 ≤ r.2 ∧ r.2 ≤ 1099511627776 ∧ setR (r.2 + 1) t

def inL (rs : RL) (n : Int) : Prop := ∃ r, r ∈ rs ∧ r.1 ≤ n ∧ n ≤ r.2

theorem inL_cons (r : Int × Int) (t : RL) (n : Int) : inL (r :: t) n ↔ (r.1 ≤ n ∧ n ≤ r.2) ∨ inL t n := by
  simp [inL]

theorem setR_mono {m m' : Int} (h : m' ≤ m) : ∀ {rs : RL}, setR m rs → setR m' rs
  | [], _ => trivial
  | r :: t, hs => ⟨by have := hs.1; omega, hs.2⟩

theorem merge_set : ∀ (rs : RL) (m p a b : Int), setR m rs → a ≤ b → b ≤ 1099511627776 → p < a → p ≤ m → setR p (mergeTo rs a b)
  | [], m, p, a, b, _, h1, h2, h3, _ => ⟨h3, h1, h2, trivial⟩
  | r :: t, m, p, a, b, hs, h1, h2, h3, h4 => by
    obtain ⟨s1, s2, s3, s4⟩ := hs
    simp only [mergeTo]
    split
    · exact ⟨h3, h1, h2, by omega, s2, s3, s4⟩
    · exact merge_set t (r.2 + 1) p _ _ s4 (by omega) (by omega) (by omega) (by omega)

theorem add_set : ∀ (rs : RL) (m a b : Int), setR m rs → m < a → a ≤ b → b ≤ 1099511627776 → setR m (addTo rs a b)
  | [], m, a, b, _, h1, h2, h3 => ⟨h1, h2, h3, trivial⟩
  | r :: t, m, a, b, hs, h1, h2, h3 => by
    obtain ⟨s1, s2, s3, s4⟩ := hs
    simp only [addTo]
    split
    · exact ⟨s1, s2, s3, add_set t _ a b s4 (by omega) h2 h3⟩
    · exact merge_set (r :: t) m m a b ⟨s1, s2, s3, s4⟩ h2 h3 h1 (Int.le_refl _)

theorem merge_in (n : Int) : ∀ (rs : RL) (m a b : Int), setR m rs → a ≤ b → (∀ r t, rs = r :: t → a ≤ r.2 + 1) → (inL (mergeTo rs a b) n ↔ inL rs n ∨ (a ≤ n ∧ n ≤ b))
  | [], m, a, b, _, _, _ => by simp [mergeTo, inL]
  | r :: t, m, a, b, hs, h1, h2 => by
    obtain ⟨s1, s2, s3, s4⟩ := hs
    have h3 := h2 r t rfl
    simp only [mergeTo]
    split
    · simp only [inL_cons]
      constructor
      · rintro (h | h | h)
        · exact .inr h
        · exact .inl (.inl h)
        · exact .inl (.inr h)
      · rintro ((h | h) | h)
        · exact .inr (.inl h)
        · exact .inr (.inr h)
        · exact .inl h
    · rename_i hlt
      have ih := merge_in n t (r.2 + 1) (min a r.1) (max b r.2) s4 (by omega) (fun r' t' e => by
        subst e; obtain ⟨q1, q2, _⟩ := s4; omega)
      rw [ih, inL_cons]
      constructor
      · rintro (h | h)
        · exact .inl (.inr h)
        · by_cases hx : r.1 ≤ n ∧ n ≤ r.2
          · exact .inl (.inl hx)
          · exact .inr (by omega)
      · rintro ((h | h) | h)
        · exact .inr (by omega)
        · exact .inl h
        · exact .inr (by omega)

theorem add_in (n : Int) : ∀ (rs : RL) (m a b : Int), setR m rs → a ≤ b → (inL (addTo rs a b) n ↔ inL rs n ∨ (a ≤ n ∧ n ≤ b))
  | [], m, a, b, _, _ => by simp [addTo, inL]
  | r :: t, m, a, b, hs, h1 => by
    have hs' := hs
    obtain ⟨s1, s2, s3, s4⟩ := hs
    simp only [addTo]
    split
    · rw [inL_cons, inL_cons, add_in n t _ a b s4 h1, or_assoc]
    · exact merge_in n (r :: t) m a b hs' h1 (fun r' t' e => by cases e; omega)

theorem add_ne (rs : RL) (a b : Int) : 0 < (addTo rs a b).length := by
  have hm : ∀ (rs : RL) (a b : Int), 0 < (mergeTo rs a b).length := by
    intro rs
    induction rs with
    | nil => intro a b; simp [mergeTo]
    | cons r t ih => intro a b; simp only [mergeTo]; split <;> simp [ih]
  cases rs with
  | nil => simp [addTo]
  | cons r t => simp only [addTo]; split <;> simp [hm]

/-! Bridges to the index form. -/
theorem setR_of_good : ∀ (rs : RL) (m : Int), (∀ i, i < rs.length → isR (lo rs i) (hi rs i) = true) → (∀ i, i + 1 < rs.length → hi rs i + 1 < lo rs (i + 1)) → (∀ r t, rs = r :: t → m < r.1) → setR m rs
  | [], _, _, _, _ => trivial
  | r :: t, m, h1, h2, h3 => by
    have hr : isR r.1 r.2 = true := h1 0 (by simp)
    have hb := isR_hi hr
    refine ⟨h3 r t rfl, hb.2.1, hb.2.2, setR_of_good t (r.2 + 1) (fun i hi => h1 (i + 1) (by simpa using hi)) (fun i hi => h2 (i + 1) (by simpa using hi)) (fun r' t' e => ?_)⟩
    subst e
    exact h2 0 (by simp)

theorem good_of_setR : ∀ (rs : RL) (m : Int), setR m rs → (∀ i, i < rs.length → lo rs i ≤ hi rs i ∧ hi rs i ≤ 1099511627776 ∧ m < lo rs i) ∧ (∀ i, i + 1 < rs.length → hi rs i + 1 < lo rs (i + 1))
  | [], m, _ => ⟨fun i h => by simp at h, fun i h => by simp at h⟩
  | r :: t, m, hs => by
    obtain ⟨s1, s2, s3, s4⟩ := hs
    have ih := good_of_setR t (r.2 + 1) s4
    constructor
    · intro i h
      cases i with
      | zero => exact ⟨s2, s3, s1⟩
      | succ j => have := ih.1 j (by simpa using h); exact ⟨this.1, this.2.1, by have := this.2.2; show m < lo t j; omega⟩
    · intro i h
      cases i with
      | zero =>
        have := ih.1 0 (by simpa using h)
        exact this.2.2
      | succ j => exact ih.2 j (by simpa using h)

theorem setB_setR (rs : RL) : setB rs = true ↔ setR (-1) rs := by
  rw [setB_iff]
  constructor
  · intro h
    refine setR_of_good rs (-1) (fun i hi => goodAt_isR (h i hi)) (fun i hi => ?_) (fun r t e => ?_)
    · have := h (i + 1) hi
      simp [goodAt, apartB] at this
      exact this.2
    · subst e
      have := isR_hi (goodAt_isR (h 0 (by simp)))
      have h0 : lo (r :: t) 0 = r.1 := rfl
      omega
  · intro h i hi'
    have g := good_of_setR rs (-1) h
    have g1 := g.1 i hi'
    simp only [goodAt, isR, apartB, Bool.and_eq_true, Bool.or_eq_true, decide_eq_true_eq, beq_iff_eq]
    refine ⟨⟨by omega, by omega, by omega⟩, ?_⟩
    cases i with
    | zero => exact .inl rfl
    | succ j => exact .inr (g.2 j hi')

theorem setB_len {rs : RL} (h : setB rs = true) : rs.length ≤ 549755813889 := by
  have g := good_of_setR rs (-1) ((setB_setR rs).1 h)
  have hl : ∀ i, i < rs.length → (2 * i : Int) ≤ lo rs i := by
    intro i
    induction i with
    | zero => intro h; have := (g.1 0 h).2.2; omega
    | succ j ih => intro h; have h1 := ih (by omega); have h2 := g.2 j h; have h3 := g.1 j (by omega); omega
  rcases Nat.lt_or_ge 549755813889 rs.length with hx | hx
  · have h1 := hl 549755813889 hx
    have h2 := g.1 549755813889 hx
    omega
  · exact hx

theorem hasB_inL (rs : RL) (n : Int) : hasB rs n = true ↔ inL rs n := by
  simp only [hasB, List.any_eq_true, List.mem_range, inAt, withinB, decide_eq_true_eq, inL]
  constructor
  · rintro ⟨i, hi', h1, h2⟩
    exact ⟨rs[i], List.getElem_mem hi', by simpa [lo, List.getD, hi'] using h1, by simpa [hi, List.getD, hi'] using h2⟩
  · rintro ⟨r, hr, h1, h2⟩
    obtain ⟨i, hi', rfl⟩ := List.getElem_of_mem hr
    exact ⟨i, hi', by simpa [lo, List.getD, hi'] using h1, by simpa [hi, List.getD, hi'] using h2⟩

theorem addTo_setB {rs : RL} {a b : Int} (h : setB rs = true) (hr : isR a b = true) : setB (addTo rs a b) = true := by
  have hb := isR_hi hr
  rw [setB_setR] at h ⊢
  exact add_set rs _ a b h (by omega) hb.2.1 hb.2.2

theorem addTo_has {rs : RL} {a b : Int} (n : Int) (h : setB rs = true) (hr : isR a b = true) : hasB (addTo rs a b) n = (hasB rs n || withinB a b n) := by
  have hb := isR_hi hr
  rw [Bool.eq_iff_iff, hasB_inL, add_in n rs (-1) a b ((setB_setR rs).1 h) hb.2.1, Bool.or_eq_true, hasB_inL]
  simp [withinB]

theorem set_gap {rs : RL} (h : setB rs = true) : ∀ i j, i < j → j < rs.length → hi rs i + 1 < lo rs j := by
  have g := good_of_setR rs (-1) ((setB_setR rs).1 h)
  intro i j hij
  induction j with
  | zero => omega
  | succ q ih =>
    intro hq
    rcases Nat.lt_succ_iff_lt_or_eq.1 hij with h1 | rfl
    · have h2 := ih h1 (by omega)
      have h3 := g.1 q (by omega)
      have h4 := g.2 q hq
      omega
    · exact g.2 i hq

theorem gap_spec {rs : RL} (h : setB rs = true) (n : Int) : n ≤ gapI rs n ∧ hasB rs (gapI rs n) = false ∧ ∀ m, n ≤ m → m < gapI rs n → hasB rs m = true := by
  by_cases hx : ∃ k, k < rs.length ∧ inAt rs n k = true
  · obtain ⟨k, hk, hin⟩ := hx
    have hin' : lo rs k ≤ n ∧ n ≤ hi rs k := by simpa [inAt, withinB] using hin
    have g := good_of_setR rs (-1) ((setB_setR rs).1 h)
    have hp : ∀ j, j < k → inAt rs n j = false := by
      intro j hj
      have := set_gap h j k hj hk
      simp [inAt, withinB]; omega
    rw [gapI_yes hk hin hp]
    refine ⟨by omega, hasB_no fun j hj => ?_, fun m h1 h2 => hasB_yes hk (by simp [inAt, withinB]; omega)⟩
    simp only [inAt, withinB, decide_eq_false_iff_not]
    rcases Nat.lt_trichotomy j k with h1 | rfl | h1
    · have := set_gap h j k h1 hk; omega
    · omega
    · have := set_gap h k j h1 hj; omega
  · have hn : ∀ j, j < rs.length → inAt rs n j = false := by
      intro j hj
      cases hv : inAt rs n j
      · rfl
      · exact absurd ⟨j, hj, hv⟩ hx
    rw [gapI_no hn]
    exact ⟨Int.le_refl _, hasB_no hn, fun m h1 h2 => by omega⟩

end Go.Proofs.YtockkceclkcgbaaGreatDoor

/- Sets of ranges: two that have the same numbers are one; the ranges of the messages that are done are such a set; the first one that is not done. -/
namespace Go.Proofs.YtockkceclkcgbaaGreatDoor

theorem inL_gt : ∀ (rs : RL) (m n : Int), setR m rs → inL rs n → m < n
  | [], _, _, _, h => by obtain ⟨r, hr, _⟩ := h; cases hr
  | r :: t, m, n, hs, h => by
    obtain ⟨s1, s2, s3, s4⟩ := hs
    rcases (inL_cons r t n).1 h with h | h
    · omega
    · have := inL_gt t _ n s4 h; omega
theorem inL_none {n : Int} (h : inL [] n) : False := by obtain ⟨r, hr, _⟩ := h; cases hr

/-- two sets with the same numbers are one -/
theorem setR_one : ∀ (A B : RL) (m : Int), setR m A → setR m B → (∀ n, inL A n ↔ inL B n) → A = B
  | [], [], _, _, _, _ => rfl
  | [], b :: t, _, _, hB, h => (inL_none ((h b.1).2 ((inL_cons b t b.1).2 (.inl ⟨Int.le_refl _, hB.2.1⟩)))).elim
  | a :: s, [], _, hA, _, h => (inL_none ((h a.1).1 ((inL_cons a s a.1).2 (.inl ⟨Int.le_refl _, hA.2.1⟩)))).elim
  | a :: s, b :: t, m, hA, hB, h => by
    obtain ⟨a1, a2, a3, a4⟩ := hA
    obtain ⟨b1, b2, b3, b4⟩ := hB
    have h1 := (inL_cons b t a.1).1 ((h a.1).1 ((inL_cons a s a.1).2 (.inl ⟨Int.le_refl _, a2⟩)))
    have h2 := (inL_cons a s b.1).1 ((h b.1).2 ((inL_cons b t b.1).2 (.inl ⟨Int.le_refl _, b2⟩)))
    have l1 : b.1 ≤ a.1 := by
      rcases h1 with h1 | h1
      · omega
      · have := inL_gt t _ _ b4 h1; omega
    have l2 : a.1 ≤ b.1 := by
      rcases h2 with h2 | h2
      · omega
      · have := inL_gt s _ _ a4 h2; omega
    have e1 : a.1 = b.1 := by omega
    have e2 : a.2 = b.2 := by
      rcases Int.lt_trichotomy a.2 b.2 with hlt | heq | hgt
      · exfalso
        rcases (inL_cons a s (a.2 + 1)).1 ((h (a.2 + 1)).2 ((inL_cons b t (a.2 + 1)).2 (.inl (by omega)))) with q | q
        · omega
        · have := inL_gt s _ _ a4 q; omega
      · exact heq
      · exfalso
        rcases (inL_cons b t (b.2 + 1)).1 ((h (b.2 + 1)).1 ((inL_cons a s (b.2 + 1)).2 (.inl (by omega)))) with q | q
        · omega
        · have := inL_gt t _ _ b4 q; omega
    have et : s = t := setR_one s t (a.2 + 1) a4 (by rw [e2]; exact b4) (fun n => by
      constructor
      · intro q
        have q1 := inL_gt s _ _ a4 q
        rcases (inL_cons b t n).1 ((h n).1 ((inL_cons a s n).2 (.inr q))) with q2 | q2
        · omega
        · exact q2
      · intro q
        have q1 := inL_gt t _ _ b4 q
        rcases (inL_cons a s n).1 ((h n).2 ((inL_cons b t n).2 (.inr q))) with q2 | q2
        · omega
        · exact q2)
    rw [et, Prod.ext e1 e2]

theorem setB_one {A B : RL} (hA : setB A = true) (hB : setB B = true) (h : ∀ n, hasB A n = hasB B n) : A = B :=
  setR_one A B (-1) ((setB_setR A).1 hA) ((setB_setR B).1 hB) (fun n => by rw [← hasB_inL, ← hasB_inL, h n])

theorem setR_snoc (r : Int × Int) : ∀ (a : RL) (m : Int), setR m (a ++ [r]) ↔ setR m a ∧ m < r.1 ∧ (∀ x ∈ a, x.2 + 1 < r.1) ∧ r.1 ≤ r.2 ∧ r.2 ≤ 1099511627776
  | [], m => by simp [setR]
  | x :: a, m => by
    have ih := setR_snoc r a (x.2 + 1)
    simp only [List.cons_append, setR, ih]
    constructor
    · rintro ⟨h1, h2, h3, h4, h5, h6, h7⟩
      refine ⟨⟨h1, h2, h3, h4⟩, by omega, fun y hy => ?_, h7⟩
      rcases List.mem_cons.1 hy with rfl | hy
      · exact h5
      · exact h6 y hy
    · rintro ⟨⟨h1, h2, h3, h4⟩, h5, h6, h7⟩
      exact ⟨h1, h2, h3, h4, h6 x (by simp), fun y hy => h6 y (by simp [hy]), h7⟩
theorem inL_snoc (a : RL) (r : Int × Int) (n : Int) : inL (a ++ [r]) n ↔ inL a n ∨ (r.1 ≤ n ∧ n ≤ r.2) := by
  simp only [inL, List.mem_append, List.mem_singleton]
  constructor
  · rintro ⟨x, hx | rfl, h⟩
    · exact .inl ⟨x, hx, h⟩
    · exact .inr h
  · rintro (⟨x, hx, h⟩ | h)
    · exact ⟨x, .inl hx, h⟩
    · exact ⟨r, .inr rfl, h⟩

/-- the item of a number -/
def itemAt (l : List It) (n : Int) : Option It := bif decide (0 ≤ n) then l[n.toNat]? else none
theorem itemAt_nat (l : List It) (n : Nat) : itemAt l n = l[n]? := by simp [itemAt]
theorem itemAt_some {l : List It} {n : Int} {x : It} (h : itemAt l n = some x) : 0 ≤ n ∧ l[n.toNat]? = some x := by
  unfold itemAt at h
  by_cases h0 : 0 ≤ n
  · simpa [h0] using h
  · simp [h0] at h
theorem itemAt_set {l : List It} {n : Nat} (hn : n < l.length) (y : It) (j : Int) : itemAt (l.set n y) j = if j = n then some y else itemAt l j := by
  unfold itemAt
  by_cases h0 : 0 ≤ j
  · simp only [h0, decide_true, cond_true, List.getElem?_set]
    by_cases hj : j = n
    · subst hj
      simp [hn]
    · have : ¬ n = j.toNat := by omega
      simp [hj, this]
  · have : ¬ j = n := by omega
    simp [h0, this]
def doneB (l : List It) (n : Int) : Bool := match itemAt l n with
  | some x => decide (0 < x.done)
  | none => false
theorem doneB_iff {l : List It} {n : Int} : doneB l n = true ↔ ∃ (j : Nat) (x : It), n = j ∧ l[j]? = some x ∧ 0 < x.done := by
  unfold doneB
  constructor
  · intro h
    cases hx : itemAt l n with
    | none => rw [hx] at h; cases h
    | some x =>
      rw [hx] at h
      obtain ⟨h0, h1⟩ := itemAt_some hx
      exact ⟨n.toNat, x, by omega, h1, by simpa using h⟩
  · rintro ⟨j, x, rfl, hx, h⟩
    simp [itemAt_nat, hx, h]

theorem prevDone_succ {l : List It} {k : Nat} {x : It} (hx : l[k]? = some x) : prevDone l (k + 1) = decide (0 < x.done) := by simp [prevDone, hx]

/-- what is done among the first k -/
theorem doneTo_inv (l : List It) (h0 : ∀ x ∈ l, 0 ≤ x.done) (hl : l.length ≤ 1099511627776) : ∀ k, k ≤ l.length →
    setR (-1) (doneTo l k) ∧ (∀ r ∈ doneTo l k, r.2 < k) ∧ (prevDone l k = false → ∀ r ∈ doneTo l k, r.2 + 1 < k) ∧ ∀ n, inL (doneTo l k) n ↔ n < k ∧ doneB l n = true
  | 0, _ => ⟨trivial, by simp [doneTo], by simp [doneTo], fun n => ⟨fun h => (inL_none h).elim, fun h => by
      obtain ⟨j, _, rfl, _⟩ := doneB_iff.1 h.2
      have := h.1
      omega⟩⟩
  | k + 1, hk => by
    obtain ⟨i1, i2, i3, i4⟩ := doneTo_inv l h0 hl k (by omega)
    obtain ⟨x, hx⟩ : ∃ x, l[k]? = some x := ⟨_, List.getElem?_eq_getElem (by omega)⟩
    have hx0 := h0 x (List.mem_of_getElem? hx)
    have hkd : doneB l (k : Int) = decide (0 < x.done) := by simp [doneB, itemAt_nat, hx]
    have hsplit : ∀ n : Int, (n < ((k + 1 : Nat) : Int) ∧ doneB l n = true) ↔ (n < k ∧ doneB l n = true) ∨ (n = k ∧ 0 < x.done) := fun n => by
      constructor
      · rintro ⟨q1, q2⟩
        by_cases hn : n = k
        · subst hn
          rw [hkd] at q2
          exact .inr ⟨rfl, by simpa using q2⟩
        · exact .inl ⟨by omega, q2⟩
      · rintro (⟨q1, q2⟩ | ⟨rfl, q2⟩)
        · exact ⟨by omega, q2⟩
        · exact ⟨by omega, by rw [hkd]; simpa using q2⟩
    by_cases hd : x.done = 0
    · rw [doneTo_skip hx hd]
      refine ⟨i1, fun r hr => by have := i2 r hr; omega, fun _ r hr => by have := i2 r hr; omega, fun n => ?_⟩
      rw [hsplit n, i4 n]
      constructor
      · exact .inl
      · rintro (h | h)
        · exact h
        · omega
    · have hpos : 0 < x.done := by omega
      have hpn : prevDone l (k + 1) = true := by rw [prevDone_succ hx]; simpa using hpos
      cases hp : prevDone l k with
      | false =>
        rw [doneTo_new hx hd hp]
        refine ⟨(setR_snoc _ _ _).2 ⟨i1, by simp; omega, fun r hr => i3 hp r hr, by simp, by simp; omega⟩, fun r hr => ?_, fun h => (by rw [hpn] at h; cases h), fun n => ?_⟩
        · rcases List.mem_append.1 hr with hr | hr
          · have := i2 r hr; omega
          · simp at hr; subst hr; simp; omega
        · rw [inL_snoc, hsplit n, i4 n]
          constructor
          · rintro (h | h)
            · exact .inl h
            · exact .inr ⟨by simp at h; omega, hpos⟩
          · rintro (h | h)
            · exact .inl h
            · exact .inr (by simp; omega)
      | true =>
        obtain ⟨a, r, e1, e2⟩ := doneTo_more hx hd hp
        rw [e1] at i1 i2 i4
        rw [e2]
        obtain ⟨s1, s2, s3, s4, s5⟩ := (setR_snoc r a (-1)).1 i1
        have hrk : r.2 = (k : Int) - 1 := by
          have hr2 := i2 r (by simp)
          cases k with
          | zero => simp [prevDone] at hp
          | succ j =>
            have hj : doneB l (j : Int) = true := by
              simp only [prevDone] at hp
              cases hy : l[j]? with
              | none => rw [hy] at hp; cases hp
              | some y => rw [hy] at hp; simp [doneB, itemAt_nat, hy]; simpa using hp
            rcases (inL_snoc a r j).1 ((i4 j).2 ⟨by omega, hj⟩) with ⟨z, hz, z1, z2⟩ | h
            · have := s3 z hz; omega
            · omega
        refine ⟨(setR_snoc _ _ _).2 ⟨s1, s2, s3, by simp; omega, by simp; omega⟩, fun z hz => ?_, fun h => (by rw [hpn] at h; cases h), fun n => ?_⟩
        · rcases List.mem_append.1 hz with hz | hz
          · have := i2 z (by simp [hz]); omega
          · simp at hz; subst hz; simp; omega
        · rw [inL_snoc, hsplit n]
          have i4n := i4 n
          rw [inL_snoc] at i4n
          constructor
          · rintro (h | h)
            · exact .inl (i4n.1 (.inl h))
            · by_cases hn : n = k
              · exact .inr ⟨hn, hpos⟩
              · exact .inl (i4n.1 (.inr (by simp at h; omega)))
          · rintro (h | h)
            · rcases i4n.2 h with h | h
              · exact .inl h
              · exact .inr (by simp; omega)
            · exact .inr (by simp; omega)

/-- a set that has just the numbers of what is done is the document's list -/
theorem set_is_done {L : RL} {l : List It} (h0 : ∀ x ∈ l, 0 ≤ x.done) (hl : l.length ≤ 1099511627776) (hs : setB L = true) (hd : ∀ n, hasB L n = doneB l n) : L = doneTo l l.length := by
  obtain ⟨i1, _, _, i4⟩ := doneTo_inv l h0 hl l.length (Nat.le_refl _)
  refine setR_one L _ (-1) ((setB_setR L).1 hs) i1 (fun n => ?_)
  rw [← hasB_inL, hd n, i4 n]
  constructor
  · intro h
    obtain ⟨j, x, rfl, hx, _⟩ := doneB_iff.1 h
    have := (List.getElem?_eq_some_iff.1 hx).1
    exact ⟨by omega, h⟩
  · exact fun h => h.2

theorem markAt_not {l : List It} : ∀ (f n : Nat), l.length ≤ n + f → doneB l (markAt l n : Nat) = false ∧ ∀ j : Nat, n ≤ j → j < markAt l n → doneB l j = true
  | 0, n, h => by
    rw [markAt_end (by omega)]
    refine ⟨?_, fun j h1 h2 => by omega⟩
    cases hd : doneB l (n : Int) with
    | false => rfl
    | true =>
      obtain ⟨j, x, e, hx, _⟩ := doneB_iff.1 hd
      have := (List.getElem?_eq_some_iff.1 hx).1
      omega
  | f + 1, n, h => by
    rcases Nat.lt_or_ge n l.length with hlt | hge
    · obtain ⟨x, hx⟩ : ∃ x, l[n]? = some x := ⟨_, List.getElem?_eq_getElem hlt⟩
      by_cases hd : 0 < x.done
      · obtain ⟨i1, i2⟩ := markAt_not (l := l) f (n + 1) (by omega)
        rw [markAt_on hx hd]
        refine ⟨i1, fun j h1 h2 => ?_⟩
        by_cases hj : j = n
        · subst hj; simp [doneB, itemAt_nat, hx, hd]
        · exact i2 j (by omega) h2
      · rw [markAt_stop hx (by omega)]
        exact ⟨by simp [doneB, itemAt_nat, hx, hd], fun j h1 h2 => by omega⟩
    · rw [markAt_end (by omega)]
      refine ⟨?_, fun j h1 h2 => by omega⟩
      cases hd : doneB l (n : Int) with
      | false => rfl
      | true =>
        obtain ⟨j, x, e, hx, _⟩ := doneB_iff.1 hd
        have := (List.getElem?_eq_some_iff.1 hx).1
        omega

/-- the gap of the set is the mark -/
theorem gap_mark {L : RL} {l : List It} {n : Nat} (hs : setB L = true) (hd : ∀ n, hasB L n = doneB l n) : gapI L n = (markAt l n : Nat) := by
  obtain ⟨g1, g2, g3⟩ := gap_spec hs n
  obtain ⟨m1, m2⟩ := markAt_not (l := l) l.length n (by omega)
  have mle := (markAt_le (l := l) (n := n)).1
  rcases Int.lt_trichotomy (gapI L n) (markAt l n : Nat) with h | h | h
  · exfalso
    obtain ⟨j, hj⟩ : ∃ j : Nat, gapI L n = j := ⟨(gapI L n).toNat, by omega⟩
    rw [hd, hj, m2 j (by omega) (by omega)] at g2
    cases g2
  · exact h
  · exfalso
    have := g3 (markAt l n : Nat) (by omega) h
    rw [hd, m1] at this
    cases this

end Go.Proofs.YtockkceclkcgbaaGreatDoor

/- Plain facts about sets of ranges: adding a range keeps a set a set, and its numbers are those of both; the gap is the least number that is not in. -/
import Derived.Test.YtockkceclkcgbaaW4
namespace Go.Proofs.Ytockkceclkcgbaa

def setR : Int → RL → Prop
  | _, [] => True
  | m, r :: t => m < r.1 ∧ r.1 ≤ r.2 ∧ r.2 ≤ 1099511627776 ∧ setR (r.2 + 1) t

def inL (rs : RL) (n : Int) : Prop := ∃ r, r ∈ rs ∧ r.1 ≤ n ∧ n ≤ r.2

theorem inL_cons (r : Int × Int) (t : RL) (n : Int) : inL (r :: t) n ↔ (r.1 ≤ n ∧ n ≤ r.2) ∨ inL t n := by
  simp [inL]

theorem setR_mono {m m' : Int} (h : m' ≤ m) : ∀ {rs : RL}, setR m rs → setR m' rs
  | [], _ => trivial
  | r :: t, hs => ⟨by have := hs.1; omega, hs.2⟩

theorem merge_set : ∀ (rs : RL) (m p a b : Int), setR m rs → a ≤ b → b ≤ 1099511627776 → p < a → p ≤ m → setR p (mergeTo rs a b)
  | [], m, p, a, b, _, h1, h2, h3, _ => ⟨h3, h1, h2, trivial⟩
  | r :: t, m, p, a, b, hs, h1, h2, h3, h4 => by
    obtain ⟨s1, s2, s3, s4⟩ := hs
    simp only [mergeTo]
    split
    · exact ⟨h3, h1, h2, by omega, s2, s3, s4⟩
    · exact merge_set t (r.2 + 1) p _ _ s4 (by omega) (by omega) (by omega) (by omega)

theorem add_set : ∀ (rs : RL) (m a b : Int), setR m rs → m < a → a ≤ b → b ≤ 1099511627776 → setR m (addTo rs a b)
  | [], m, a, b, _, h1, h2, h3 => ⟨h1, h2, h3, trivial⟩
  | r :: t, m, a, b, hs, h1, h2, h3 => by
    obtain ⟨s1, s2, s3, s4⟩ := hs
    simp only [addTo]
    split
    · exact ⟨s1, s2, s3, add_set t _ a b s4 (by omega) h2 h3⟩
    · exact merge_set (r :: t) m m a b ⟨s1, s2, s3, s4⟩ h2 h3 h1 (Int.le_refl _)

theorem merge_in (n : Int) : ∀ (rs : RL) (m a b : Int), setR m rs → a ≤ b → (∀ r t, rs = r :: t → a ≤ r.2 + 1) → (inL (mergeTo rs a b) n ↔ inL rs n ∨ (a ≤ n ∧ n ≤ b))
  | [], m, a, b, _, _, _ => by simp [mergeTo, inL]
  | r :: t, m, a, b, hs, h1, h2 => by
    obtain ⟨s1, s2, s3, s4⟩ := hs
    have h3 := h2 r t rfl
    simp only [mergeTo]
    split
    · simp only [inL_cons]
      constructor
      · rintro (h | h | h)
        · exact .inr h
        · exact .inl (.inl h)
        · exact .inl (.inr h)
      · rintro ((h | h) | h)
        · exact .inr (.inl h)
        · exact .inr (.inr h)
        · exact .inl h
    · rename_i hlt
      have ih := merge_in n t (r.2 + 1) (min a r.1) (max b r.2) s4 (by omega) (fun r' t' e => by
        subst e; obtain ⟨q1, q2, _⟩ := s4; omega)
      rw [ih, inL_cons]
      constructor
      · rintro (h | h)
        · exact .inl (.inr h)
        · by_cases hx : r.1 ≤ n ∧ n ≤ r.2
          · exact .inl (.inl hx)
          · exact .inr (by omega)
      · rintro ((h | h) | h)
        · exact .inr (by omega)
        · exact .inl h
        · exact .inr (by omega)

theorem add_in (n : Int) : ∀ (rs : RL) (m a b : Int), setR m rs → a ≤ b → (inL (addTo rs a b) n ↔ inL rs n ∨ (a ≤ n ∧ n ≤ b))
  | [], m, a, b, _, _ => by simp [addTo, inL]
  | r :: t, m, a, b, hs, h1 => by
    have hs' := hs
    obtain ⟨s1, s2, s3, s4⟩ := hs
    simp only [addTo]
    split
    · rw [inL_cons, inL_cons, add_in n t _ a b s4 h1, or_assoc]
    · exact merge_in n (r :: t) m a b hs' h1 (fun r' t' e => by cases e; omega)

theorem add_ne (rs : RL) (a b : Int) : 0 < (addTo rs a b).length := by
  have hm : ∀ (rs : RL) (a b : Int), 0 < (mergeTo rs a b).length := by
    intro rs
    induction rs with
    | nil => intro a b; simp [mergeTo]
    | cons r t ih => intro a b; simp only [mergeTo]; split <;> simp [ih]
  cases rs with
  | nil => simp [addTo]
  | cons r t => simp only [addTo]; split <;> simp [hm]

/-! Bridges to the index form. -/
theorem setR_of_good : ∀ (rs : RL) (m : Int), (∀ i, i < rs.length → isR (lo rs i) (hi rs i) = true) → (∀ i, i + 1 < rs.length → hi rs i + 1 < lo rs (i + 1)) → (∀ r t, rs = r :: t → m < r.1) → setR m rs
  | [], _, _, _, _ => trivial
  | r :: t, m, h1, h2, h3 => by
    have hr : isR r.1 r.2 = true := h1 0 (by simp)
    have hb := isR_hi hr
    refine ⟨h3 r t rfl, hb.2.1, hb.2.2, setR_of_good t (r.2 + 1) (fun i hi => h1 (i + 1) (by simpa using hi)) (fun i hi => h2 (i + 1) (by simpa using hi)) (fun r' t' e => ?_)⟩
    subst e
    exact h2 0 (by simp)

theorem good_of_setR : ∀ (rs : RL) (m : Int), setR m rs → (∀ i, i < rs.length → lo rs i ≤ hi rs i ∧ hi rs i ≤ 1099511627776 ∧ m < lo rs i) ∧ (∀ i, i + 1 < rs.length → hi rs i + 1 < lo rs (i + 1))
  | [], m, _ => ⟨fun i h => by simp at h, fun i h => by simp at h⟩
  | r :: t, m, hs => by
    obtain ⟨s1, s2, s3, s4⟩ := hs
    have ih := good_of_setR t (r.2 + 1) s4
    constructor
    · intro i h
      cases i with
      | zero => exact ⟨s2, s3, s1⟩
      | succ j => have := ih.1 j (by simpa using h); exact ⟨this.1, this.2.1, by have := this.2.2; show m < lo t j; omega⟩
    · intro i h
      cases i with
      | zero =>
        have := ih.1 0 (by simpa using h)
        exact this.2.2
      | succ j => exact ih.2 j (by simpa using h)

theorem setB_setR (rs : RL) : setB rs = true ↔ setR (-1) rs := by
  rw [setB_iff]
  constructor
  · intro h
    refine setR_of_good rs (-1) (fun i hi => goodAt_isR (h i hi)) (fun i hi => ?_) (fun r t e => ?_)
    · have := h (i + 1) hi
      simp [goodAt, apartB] at this
      exact this.2
    · subst e
      have := isR_hi (goodAt_isR (h 0 (by simp)))
      have h0 : lo (r :: t) 0 = r.1 := rfl
      omega
  · intro h i hi'
    have g := good_of_setR rs (-1) h
    have g1 := g.1 i hi'
    simp only [goodAt, isR, apartB, Bool.and_eq_true, Bool.or_eq_true, decide_eq_true_eq, beq_iff_eq]
    refine ⟨⟨by omega, by omega, by omega⟩, ?_⟩
    cases i with
    | zero => exact .inl rfl
    | succ j => exact .inr (g.2 j hi')

theorem setB_len {rs : RL} (h : setB rs = true) : rs.length ≤ 549755813889 := by
  have g := good_of_setR rs (-1) ((setB_setR rs).1 h)
  have hl : ∀ i, i < rs.length → (2 * i : Int) ≤ lo rs i := by
    intro i
    induction i with
    | zero => intro h; have := (g.1 0 h).2.2; omega
    | succ j ih => intro h; have h1 := ih (by omega); have h2 := g.2 j h; have h3 := g.1 j (by omega); omega
  rcases Nat.lt_or_ge 549755813889 rs.length with hx | hx
  · have h1 := hl 549755813889 hx
    have h2 := g.1 549755813889 hx
    omega
  · exact hx

theorem hasB_inL (rs : RL) (n : Int) : hasB rs n = true ↔ inL rs n := by
  simp only [hasB, List.any_eq_true, List.mem_range, inAt, withinB, decide_eq_true_eq, inL]
  constructor
  · rintro ⟨i, hi', h1, h2⟩
    exact ⟨rs[i], List.getElem_mem hi', by simpa [lo, List.getD, hi'] using h1, by simpa [hi, List.getD, hi'] using h2⟩
  · rintro ⟨r, hr, h1, h2⟩
    obtain ⟨i, hi', rfl⟩ := List.getElem_of_mem hr
    exact ⟨i, hi', by simpa [lo, List.getD, hi'] using h1, by simpa [hi, List.getD, hi'] using h2⟩

theorem addTo_setB {rs : RL} {a b : Int} (h : setB rs = true) (hr : isR a b = true) : setB (addTo rs a b) = true := by
  have hb := isR_hi hr
  rw [setB_setR] at h ⊢
  exact add_set rs _ a b h (by omega) hb.2.1 hb.2.2

theorem addTo_has {rs : RL} {a b : Int} (n : Int) (h : setB rs = true) (hr : isR a b = true) : hasB (addTo rs a b) n = (hasB rs n || withinB a b n) := by
  have hb := isR_hi hr
  rw [Bool.eq_iff_iff, hasB_inL, add_in n rs (-1) a b ((setB_setR rs).1 h) hb.2.1, Bool.or_eq_true, hasB_inL]
  simp [withinB]

theorem set_gap {rs : RL} (h : setB rs = true) : ∀ i j, i < j → j < rs.length → hi rs i + 1 < lo rs j := by
  have g := good_of_setR rs (-1) ((setB_setR rs).1 h)
  intro i j hij
  induction j with
  | zero => omega
  | succ q ih =>
    intro hq
    rcases Nat.lt_succ_iff_lt_or_eq.1 hij with h1 | rfl
    · have h2 := ih h1 (by omega)
      have h3 := g.1 q (by omega)
      have h4 := g.2 q hq
      omega
    · exact g.2 i hq

theorem gap_spec {rs : RL} (h : setB rs = true) (n : Int) : n ≤ gapI rs n ∧ hasB rs (gapI rs n) = false ∧ ∀ m, n ≤ m → m < gapI rs n → hasB rs m = true := by
  by_cases hx : ∃ k, k < rs.length ∧ inAt rs n k = true
  · obtain ⟨k, hk, hin⟩ := hx
    have hin' : lo rs k ≤ n ∧ n ≤ hi rs k := by simpa [inAt, withinB] using hin
    have g := good_of_setR rs (-1) ((setB_setR rs).1 h)
    have hp : ∀ j, j < k → inAt rs n j = false := by
      intro j hj
      have := set_gap h j k hj hk
      simp [inAt, withinB]; omega
    rw [gapI_yes hk hin hp]
    refine ⟨by omega, hasB_no fun j hj => ?_, fun m h1 h2 => hasB_yes hk (by simp [inAt, withinB]; omega)⟩
    simp only [inAt, withinB, decide_eq_false_iff_not]
    rcases Nat.lt_trichotomy j k with h1 | rfl | h1
    · have := set_gap h j k h1 hk; omega
    · omega
    · have := set_gap h k j h1 hj; omega
  · have hn : ∀ j, j < rs.length → inAt rs n j = false := by
      intro j hj
      cases hv : inAt rs n j
      · rfl
      · exact absurd ⟨j, hj, hv⟩ hx
    rw [gapI_no hn]
    exact ⟨Int.le_refl _, hasB_no hn, fun m h1 h2 => by omega⟩

end Go.Proofs.Ytockkceclkcgbaa

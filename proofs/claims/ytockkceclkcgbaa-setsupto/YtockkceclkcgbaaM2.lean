/- Plain facts: the document's way to add a range (all that touch it merged first, then the list built anew) gives the same list. -/
import Derived.Test.YtockkceclkcgbaaM1
namespace Go.Proofs.Ytockkceclkcgbaa

def touchB (r : Int × Int) (a b : Int) : Bool := decide (a ≤ r.2 + 1 ∧ r.1 ≤ b + 1)
def mer : RL → Int → Int → Int × Int
  | [], a, b => (a, b)
  | r :: t, a, b => if touchB r a b then mer t (min a r.1) (max b r.2) else mer t a b
def coverB (r : Int × Int) (a b : Int) : Bool := decide (a ≤ r.1 ∧ r.2 ≤ b)
def bld (a b : Int) : RL → Bool → RL
  | [], done => if done then [] else [(a, b)]
  | r :: t, done => if coverB r a b then bld a b t done else if !done && decide (b < r.1) then (a, b) :: r :: bld a b t true else r :: bld a b t done

theorem mer_le : ∀ (rs : RL) (m a b : Int), setR m rs → a ≤ b → (mer rs a b).1 ≤ a ∧ b ≤ (mer rs a b).2 ∧ ((mer rs a b).1 = a ∨ m < (mer rs a b).1)
  | [], m, a, b, _, _ => ⟨Int.le_refl _, Int.le_refl _, .inl rfl⟩
  | r :: t, m, a, b, hs, h => by
    obtain ⟨s1, s2, s3, s4⟩ := hs
    simp only [mer]
    split
    · have ih := mer_le t (r.2 + 1) (min a r.1) (max b r.2) s4 (by omega)
      refine ⟨by omega, by omega, ?_⟩
      rcases ih.2.2 with h1 | h1
      · by_cases ha : a ≤ r.1
        · left; omega
        · right; omega
      · right; omega
    · have ih := mer_le t (r.2 + 1) a b s4 h
      refine ⟨ih.1, ih.2.1, ?_⟩
      rcases ih.2.2 with h1 | h1
      · exact .inl h1
      · right; omega

theorem mer_none : ∀ (rs : RL) (m a b : Int), setR m rs → b + 1 ≤ m → mer rs a b = (a, b)
  | [], _, _, _, _, _ => rfl
  | r :: t, m, a, b, hs, h => by
    obtain ⟨s1, s2, s3, s4⟩ := hs
    have : touchB r a b = false := by simp [touchB]; omega
    simp only [mer, this]
    exact mer_none t (r.2 + 1) a b s4 (by omega)

theorem bld_rest : ∀ (rs : RL) (m a b : Int), setR m rs → b ≤ m → bld a b rs true = rs
  | [], _, _, _, _, _ => rfl
  | r :: t, m, a, b, hs, h => by
    obtain ⟨s1, s2, s3, s4⟩ := hs
    have : coverB r a b = false := by simp [coverB]; omega
    simp only [bld, this]
    simp [bld_rest t (r.2 + 1) a b s4 (by omega)]

theorem bld_merge : ∀ (rs : RL) (m a b : Int), setR m rs → a ≤ b → (∀ r t, rs = r :: t → a ≤ r.2 + 1) → bld (mer rs a b).1 (mer rs a b).2 rs false = mergeTo rs a b
  | [], _, _, _, _, _, _ => rfl
  | r :: t, m, a, b, hs, h, hr => by
    obtain ⟨s1, s2, s3, s4⟩ := hs
    have h0 := hr r t rfl
    by_cases hb : b + 1 < r.1
    · have ht : touchB r a b = false := by simp [touchB]; omega
      have hm : mer (r :: t) a b = (a, b) := by
        simp only [mer, ht]; exact mer_none t (r.2 + 1) a b s4 (by omega)
      rw [hm]
      have hc : coverB r a b = false := by simp [coverB]; omega
      have hd : decide (b < r.1) = true := by simp; omega
      simp only [bld, hc, hd, mergeTo, if_pos hb]
      simp [bld_rest t (r.2 + 1) a b s4 (by omega)]
    · have ht : touchB r a b = true := by simp [touchB]; omega
      have hm : mer (r :: t) a b = mer t (min a r.1) (max b r.2) := by simp [mer, ht]
      have hle := mer_le t (r.2 + 1) (min a r.1) (max b r.2) s4 (by omega)
      have ih := bld_merge t (r.2 + 1) (min a r.1) (max b r.2) s4 (by omega) (fun r' t' e => by subst e; obtain ⟨q1, q2, _⟩ := s4; omega)
      rw [hm]
      have hc : coverB r (mer t (min a r.1) (max b r.2)).1 (mer t (min a r.1) (max b r.2)).2 = true := by simp [coverB]; omega
      simp only [bld, hc, if_true, mergeTo, if_neg hb]
      exact ih

theorem bld_add : ∀ (rs : RL) (m a b : Int), setR m rs → a ≤ b → bld (mer rs a b).1 (mer rs a b).2 rs false = addTo rs a b
  | [], _, _, _, _, _ => rfl
  | r :: t, m, a, b, hs, h => by
    have hs' := hs
    obtain ⟨s1, s2, s3, s4⟩ := hs
    by_cases hb : r.2 + 1 < a
    · have ht : touchB r a b = false := by simp [touchB]; omega
      have hm : mer (r :: t) a b = mer t a b := by simp [mer, ht]
      have hle := mer_le t (r.2 + 1) a b s4 h
      rw [hm]
      have hc : coverB r (mer t a b).1 (mer t a b).2 = false := by simp [coverB]; omega
      have hd : decide ((mer t a b).2 < r.1) = false := by simp; omega
      simp only [bld, hc, hd, addTo, if_pos hb]
      simp [bld_add t (r.2 + 1) a b s4 h]
    · rw [bld_merge (r :: t) m a b hs' h (fun r' t' e => by cases e; omega)]
      simp only [addTo, if_neg hb]

/-! Step by step, as the loops go. -/
theorem mer_step {rs : RL} {k : Nat} {a b : Int} (h : k < rs.length) :
    mer (rs.drop k) a b = if touchB (lo rs k, hi rs k) a b then mer (rs.drop (k + 1)) (min a (lo rs k)) (max b (hi rs k)) else mer (rs.drop (k + 1)) a b := by
  rw [drop_at rs k h]; rfl

theorem bld_step {rs : RL} {k : Nat} {a b : Int} {done : Bool} (h : k < rs.length) :
    bld a b (rs.drop k) done = if coverB (lo rs k, hi rs k) a b then bld a b (rs.drop (k + 1)) done else if !done && decide (b < lo rs k) then (a, b) :: (lo rs k, hi rs k) :: bld a b (rs.drop (k + 1)) true else (lo rs k, hi rs k) :: bld a b (rs.drop (k + 1)) done := by
  rw [drop_at rs k h]; rfl

theorem bld_len (a b : Int) : ∀ (rs : RL) (done : Bool), (bld a b rs done).length ≤ rs.length + 1
  | [], done => by cases done <;> simp [bld]
  | r :: t, done => by
    simp only [bld]
    split
    · have := bld_len a b t done; simp; omega
    · split
      · have h2 : ∀ t : RL, (bld a b t true).length ≤ t.length := by
          intro t
          induction t with
          | nil => simp [bld]
          | cons s u ih => simp only [bld]; split; · simp; omega
                           · simp [ih]
        have := h2 t; simp; omega
      · have := bld_len a b t done; simp; omega

end Go.Proofs.Ytockkceclkcgbaa

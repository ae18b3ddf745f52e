/- The contract of has: is a number in ranges? -/
import Derived.Test.YtgcbooflhdjnhaaT34
import Derived.Test.YtgcbooflhdjnhaaT20
namespace Go.Proofs.Ytgcbooflhdjnhaa
open Go.RowKit

/-- is a number in one of the ranges from the j-th on? -/
def hasFrom (l : List (Int × Int)) (n : Int) (j : Nat) : Bool := (l.drop j).any (fun r => decide (r.1 ≤ n) && decide (n ≤ r.2))
theorem hasFrom_end {l : List (Int × Int)} {n : Int} {j : Nat} (h : l.length ≤ j) : hasFrom l n j = false := by simp [hasFrom, List.drop_eq_nil_of_le h]
theorem hasFrom_at {l : List (Int × Int)} {n : Int} {j : Nat} {r : Int × Int} (h : l[j]? = some r) : hasFrom l n j = ((decide (r.1 ≤ n) && decide (n ≤ r.2)) || hasFrom l n (j + 1)) := by
  obtain ⟨h1, h2⟩ := List.getElem?_eq_some_iff.1 h
  unfold hasFrom
  rw [List.drop_eq_getElem_cons h1, h2]
  simp
theorem hasFrom_in (l : List (Int × Int)) (n : Int) : hasFrom l n 0 = true ↔ inL l n := by
  simp [hasFrom, inL]

set_option maxRecDepth 100000 in
set_option maxHeartbeats 1000000 in
theorem khas_any (l : List (Int × Int)) (n : Int) (ao : Option Addr) (cap : Nat) (t : Tag) (w : World) (T : Nat → Tag) (hr : Row w T t 31 2 (.slice ao l.length cap) l.length (pairVals l)) (hl : l.length ≤ 400) :
    Calls Try.prog 101 #[.slice ao l.length cap, .int .i64 n] w fun e w' => e = .returned (.bool (hasFrom l n 0)) ∧ w' = w := by
  go_enter Try.func101, Try.ntmps101
  go_wp2
  go_loopw [5] (fun x wr => ∃ k : Nat, k ≤ l.length ∧ x = .int .i64 k ∧ wr = w ∧ Hid (hasFrom l n 0 = hasFrom l n k)) (fun x _ => l.length - (intOf x).toNat)
  case atStart => exact ⟨0, Nat.zero_le _, rfl, rfl, hide rfl⟩
  case round =>
    obtain ⟨k, hk, rfl, rfl, hh⟩ := hrel
    by_cases hlt : k < l.length
    · obtain ⟨r, hrk⟩ : ∃ r, l[k]? = some r := ⟨_, List.getElem?_eq_getElem hlt⟩
      obtain ⟨g, _, e⟩ := row_some hr (by omega)
      cases e
      have t0 := hr.cell (pairVals_at l k r hrk).1
      have t1 := hr.cell (pairVals_at l k r hrk).2
      have hat := hide (hasFrom_at (n := n) hrk)
      by_cases h1 : r.1 ≤ n
      · by_cases h2 : n ≤ r.2
        · go_wp2
          go_ret
          exact ⟨by rw [hh.out, hat.out]; simp [h1, h2], rfl⟩
        · go_wp2
          exact ⟨⟨k + 1, by omega, by simp, by trivial, hide (by rw [hh.out, hat.out]; simp [h2])⟩, by simp [intOf]; omega⟩
      · go_wp2
        exact ⟨⟨k + 1, by omega, by simp, by trivial, hide (by rw [hh.out, hat.out]; simp [h1])⟩, by simp [intOf]; omega⟩
    · go_wp2
      go_ret
      exact ⟨by rw [hh.out, hasFrom_end (by omega)]; rfl, rfl⟩

end Go.Proofs.Ytgcbooflhdjnhaa

/- The mathematics of look: what a queue tells of its groups, and what was seen of them. -/
namespace Go.Proofs.Ytgcbooflhdjnhaa
open Go.RowKit

theorem idx_first {s : ByteArray} : ∀ {l : List ByteArray} {k : Nat}, l[k]? = some s → (∀ j x, j < k → l[j]? = some x → x ≠ s) → idx s l = some k
  | [], k, h, _ => by simp at h
  | x :: r, 0, h, _ => by
    simp at h
    simp [idx, h]
  | x :: r, k + 1, h, hn => by
    have hx : ¬ x = s := hn 0 x (by omega) rfl
    have ih := idx_first (s := s) (l := r) (k := k) (by simpa using h) (fun j y hj hy => hn (j + 1) y (by omega) (by simpa using hy))
    simp [idx, hx, ih]

theorem nameB_inj {i j : Nat} (hi : i < 6) (hj : j < 6) (h : nameB i = nameB j) : i = j := by
  have e : (nameB i).data = (nameB j).data := by rw [h]
  simp [nameB] at e
  have e2 := congrArg UInt8.toNat e
  simp at e2
  omega

/-- groups bear the names of their numbers -/
def Named (m : MQ) : Prop := ∀ k g, m.groups[k]? = some g → g.name = nameB k
theorem at_name {m : MQ} (hn : Named m) (h6 : m.groups.length ≤ 6) {k : Nat} {g : MG} (hg : m.groups[k]? = some g) : m.at (nameB k) = some k := by
  have hk := (List.getElem?_eq_some_iff.1 hg).1
  refine idx_first (by simp [MQ.names, hg, hn k g hg]) (fun j x hj hx => ?_)
  simp only [MQ.names, List.getElem?_map, Option.map_eq_some_iff] at hx
  obtain ⟨g', hg', rfl⟩ := hx
  rw [hn j g' hg']
  exact fun e => by have := nameB_inj (by omega) (by omega) e; omega

theorem done_has {l : List It} (h0 : ∀ (n : Nat) x, l[n]? = some x → 0 ≤ x.done) (hl : l.length ≤ 400) {n : Nat} {x : It} (hx : l[n]? = some x) : hasFrom (doneTo l l.length) n 0 = decide (0 < x.done) := by
  obtain ⟨_, _, _, i4⟩ := doneTo_inv l (fun x hx => by obtain ⟨n, hn⟩ := List.getElem?_of_mem hx; exact h0 n x hn) (by omega) l.length (Nat.le_refl _)
  have hn := (List.getElem?_eq_some_iff.1 hx).1
  have hd : doneB l (n : Int) = decide (0 < x.done) := by simp [doneB, itemAt_nat, hx]
  have := i4 n
  rw [← hasFrom_in, hd] at this
  by_cases h : 0 < x.done
  · simp only [h, decide_true, and_true] at this ⊢
    exact this.2 (by omega)
  · simp only [h, decide_false, Bool.false_eq_true, and_false, iff_false, Bool.not_eq_true] at this ⊢
    exact this

/-- the first n as they are, the others as they were seen -/
def mixI (l u : List It) (n : Nat) : List It := l.take n ++ u.drop n
theorem mixI_zero (l u : List It) : mixI l u 0 = u := by simp [mixI]
theorem mixI_all (l u : List It) (h : u.length = l.length) : mixI l u l.length = l := by simp [mixI, List.drop_eq_nil_of_le (Nat.le_of_eq h)]
theorem mixI_len (l u : List It) (n : Nat) (h : u.length = l.length) (hn : n ≤ l.length) : (mixI l u n).length = l.length := by simp [mixI]; omega
theorem mixI_at (l u : List It) (n : Nat) (hn : n ≤ l.length) (h : u.length = l.length) (j : Nat) : (mixI l u n)[j]? = if j < n then l[j]? else u[j]? := by
  unfold mixI
  by_cases hj : j < n
  · rw [List.getElem?_append_left (by simp; omega), if_pos hj]
    simp [hj]
  · rw [List.getElem?_append_right (by simp; omega), if_neg hj]
    simp only [List.length_take, List.getElem?_drop]
    congr 1
    omega
theorem mixI_succ (l u : List It) (n : Nat) (x : It) (h : u.length = l.length) (hx : l[n]? = some x) : mixI l u (n + 1) = (mixI l u n).set n x := by
  have hn := (List.getElem?_eq_some_iff.1 hx).1
  apply List.ext_getElem?
  intro j
  rw [mixI_at l u (n + 1) (by omega) h, List.getElem?_set, mixI_at l u n (by omega) h, mixI_len l u n h (by omega)]
  by_cases hj : n = j
  · subst hj
    rw [if_pos (by omega), if_pos rfl, if_pos hn, hx]
  · by_cases hj2 : j < n
    · rw [if_pos (by omega), if_neg hj, if_pos hj2]
    · rw [if_neg (by omega), if_neg hj, if_neg hj2]
theorem mixI_same (l u : List It) (n : Nat) (x : It) (h : u.length = l.length) (hx : l[n]? = some x) (hu : u[n]? = some x) : mixI l u (n + 1) = mixI l u n := by
  have hn := (List.getElem?_eq_some_iff.1 hx).1
  rw [mixI_succ l u n x h hx]
  apply List.ext_getElem?
  intro j
  rw [List.getElem?_set, mixI_len l u n h (by omega)]
  by_cases hj : n = j
  · subst hj
    rw [mixI_at l u n (by omega) h]
    simp [hu, hn]
  · rw [if_neg hj]

/-- the first k groups as they are, the others as they were seen -/
def mixU (m : MQ) (U : Nat → List It) (k : Nat) : Nat → List It := fun j => if j < k then itemsOf m j else U j
theorem mixU_self (m : MQ) (U : Nat → List It) (k : Nat) : mixU m U k k = U k := by simp [mixU]
theorem mixU_succ (m : MQ) (U : Nat → List It) (k : Nat) : updF (mixU m U k) k (itemsOf m k) = mixU m U (k + 1) := by
  funext j
  by_cases h : j = k
  · subst h; simp [updF, mixU]
  · by_cases h2 : j < k
    · simp [updF, mixU, h, h2, Nat.lt_succ_of_lt h2]
    · have : ¬ j < k + 1 := by omega
      simp [updF, mixU, h, h2, this]

/-- is one of the first j deliveries this one? -/
def diedTo (l : List Dl) (x : Dl) (j : Nat) : Bool := (l.take j).any (fun d => decide (d.off = x.off) && decide (d.tr = x.tr) && decide (d.body = x.body))
theorem diedTo_succ {l : List Dl} {x d : Dl} {j : Nat} (h : l[j]? = some d) : diedTo l x (j + 1) = (diedTo l x j || (decide (d.off = x.off) && decide (d.tr = x.tr) && decide (d.body = x.body))) := by
  obtain ⟨h1, h2⟩ := List.getElem?_eq_some_iff.1 h
  unfold diedTo
  rw [List.take_add_one, List.any_append, h]
  simp
theorem diedTo_all {l : List Dl} {x : Dl} (h : x ∈ l) : diedTo l x l.length = true := by
  unfold diedTo
  rw [List.take_length, List.any_eq_true]
  exact ⟨x, h, by simp⟩

end Go.Proofs.Ytgcbooflhdjnhaa

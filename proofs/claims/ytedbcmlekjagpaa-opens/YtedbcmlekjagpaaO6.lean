/- The document's queue as it lies in memory: its cells, its bodies, its groups with their items; contracts of at and Enqueue. -/
import Derived.Test.YtedbcmlekjagpaaO2
namespace Go.Proofs.Ytedbcmlekjagpaa
open Go.RowKit

/-- A group of the document's queue: its name, its start, the cells of its items (four each), the dead ones' offsets. -/
structure RG where
  name : ByteArray
  start : Int
  items : List Value
  dead : List Value

/-- The document's queue. -/
structure RQ where
  c : Conf
  bodies : List Value
  floor : Int
  groups : List RG
  time : Int
  changes : Int

/-- the cells of the groups, their items' and their dead ones' lists given -/
def groupCells : List RG → (Nat → Value) → (Nat → Value) → List Value
  | [], _, _ => []
  | g :: r, vi, vd => .string g.name :: .int .i64 g.start :: vi 0 :: vd 0 :: groupCells r (fun k => vi (k + 1)) (fun k => vd (k + 1))

theorem groupCells_length : ∀ (l : List RG) (vi vd : Nat → Value), (groupCells l vi vd).length = l.length * 4
  | [], _, _ => rfl
  | g :: r, vi, vd => by simp [groupCells, groupCells_length r]; omega
theorem groupCells_at : ∀ (l : List RG) (vi vd : Nat → Value) (k : Nat) (g : RG), l[k]? = some g →
    (groupCells l vi vd)[k * 4]? = some (.string g.name) ∧ (groupCells l vi vd)[k * 4 + 1]? = some (.int .i64 g.start) ∧ (groupCells l vi vd)[k * 4 + 2]? = some (vi k) ∧ (groupCells l vi vd)[k * 4 + 3]? = some (vd k)
  | [], _, _, _, _, h => by simp at h
  | g :: r, vi, vd, 0, x, h => by simp at h; subst h; simp [groupCells]
  | g :: r, vi, vd, k + 1, x, h => by
    have h2 := groupCells_at r (fun k => vi (k + 1)) (fun k => vd (k + 1)) k x (by simpa using h)
    have e : ∀ j, (k + 1) * 4 + j = (k * 4 + j) + 4 := fun j => by omega
    refine ⟨?_, ?_, ?_, ?_⟩
    · rw [show (k + 1) * 4 = k * 4 + 4 by omega]; simpa [groupCells] using h2.1
    · rw [e]; simpa [groupCells] using h2.2.1
    · rw [e]; simpa [groupCells] using h2.2.2.1
    · rw [e]; simpa [groupCells] using h2.2.2.2
theorem groupCells_snoc : ∀ (l : List RG) (vi vd : Nat → Value) (g : RG), groupCells (l ++ [g]) vi vd = groupCells l vi vd ++ [.string g.name, .int .i64 g.start, vi l.length, vd l.length]
  | [], _, _, _ => rfl
  | x :: r, vi, vd, g => by simp [groupCells, groupCells_snoc r]
theorem groupCells_congr : ∀ (l l' : List RG) (vi vd vi' vd' : Nat → Value), l'.map (fun g => (g.name, g.start)) = l.map (fun g => (g.name, g.start)) → (∀ k, k < l.length → vi' k = vi k) → (∀ k, k < l.length → vd' k = vd k) → groupCells l' vi' vd' = groupCells l vi vd
  | [], [], _, _, _, _, _, _, _ => rfl
  | [], _ :: _, _, _, _, _, h, _, _ => by simp at h
  | _ :: _, [], _, _, _, _, h, _, _ => by simp at h
  | g :: r, g' :: r', vi, vd, vi', vd', h, h1, h2 => by
    simp at h
    simp only [groupCells]
    rw [h.1.1, h.1.2, h1 0 (by simp), h2 0 (by simp), groupCells_congr r r' (fun k => vi (k + 1)) (fun k => vd (k + 1)) _ _ (by simpa using h.2) (fun k hk => h1 (k + 1) (by simp; omega)) (fun k hk => h2 (k + 1) (by simp; omega))]
/-- one group's list of items is another value now -/
theorem groupCells_items : ∀ (l : List RG) (vi vd : Nat → Value) (k : Nat) (v : Value), k < l.length → (groupCells l vi vd).set (k * 4 + 2) v = groupCells l (fun j => if j = k then v else vi j) vd
  | [], _, _, _, _, h => by simp at h
  | g :: r, vi, vd, 0, v, _ => by simp [groupCells]
  | g :: r, vi, vd, k + 1, v, h => by
    have h2 := groupCells_items r (fun k => vi (k + 1)) (fun k => vd (k + 1)) k v (by simpa using h)
    rw [show (k + 1) * 4 + 2 = (k * 4 + 2) + 4 by omega]
    simp [groupCells, h2]

/-- The lists of one group: its items' row and its dead ones' row, each with a tag of its own. -/
def GrpAt (w : World) (T : Nat → Tag) (i k : Nat) (g : RG) (n : Nat) (vi vd : Value) : Prop :=
  Row w T (.y i 3 k) 93 4 vi n g.items ∧ Row w T (.y i 4 k) 3 1 vd g.dead.length g.dead

/-- The document's queue of number i, in block b. -/
structure YQ (w : World) (T : Nat → Tag) (i b : Nat) (q : RQ) : Prop where
  small : q.bodies.length ≤ 400
  few : q.groups.length ≤ 6
  fl : 0 ≤ q.floor ∧ q.floor ≤ q.bodies.length
  mem : ∃ vB vG vi vd, Blk w T (.y i 0 0) b #[.int .i64 q.c.l, .int .i64 q.c.d, .int .i64 q.c.s, .int .i64 q.c.k, vB, .int .i64 q.floor, vG, .int .i64 q.time, .int .i64 q.changes] 80 ∧
    Row w T (.y i 1 0) 9 1 vB q.bodies.length q.bodies ∧ Row w T (.y i 2 0) 91 4 vG q.groups.length (groupCells q.groups vi vd) ∧
    ∀ k g, q.groups[k]? = some g → GrpAt w T i k g q.bodies.length (vi k) (vd k)

theorem GrpAt.step {S : Tag → Prop} {w w' : World} {T T' : Nat → Tag} {i k : Nat} {g : RG} {n : Nat} {vi vd : Value} (h : GrpAt w T i k g n vi vd) (hs : Step S w T w' T') (h3 : ¬ S (.y i 3 k)) (h4 : ¬ S (.y i 4 k)) : GrpAt w' T' i k g n vi vd :=
  ⟨h.1.step hs h3, h.2.step hs h4⟩
theorem YQ.step {S : Tag → Prop} {w w' : World} {T T' : Nat → Tag} {i b : Nat} {q : RQ} (h : YQ w T i b q) (hs : Step S w T w' T') (hS : ∀ r k, ¬ S (.y i r k)) : YQ w' T' i b q := by
  obtain ⟨h1, h2, h3, vB, vG, vi, vd, hB, hR, hG, hI⟩ := h
  exact ⟨h1, h2, h3, vB, vG, vi, vd, hB.step hs (hS _ _), hR.step hs (hS _ _), hG.step hs (hS _ _), fun k g hk => (hI k g hk).step hs (hS _ _) (hS _ _)⟩

/-- the place of a name; -1: there is none -/
def placeFrom (s : ByteArray) : List ByteArray → Nat → Int
  | [], _ => -1
  | x :: r, k => bif decide (x = s) then k else placeFrom s r (k + 1)
def placeOf (s : ByteArray) (names : List ByteArray) : Int := placeFrom s names 0
theorem placeFrom_neg (s : ByteArray) : ∀ (l : List ByteArray) (k : Nat), (0 ≤ placeFrom s l k ↔ s ∈ l)
  | [], k => by simp [placeFrom]
  | x :: r, k => by
    unfold placeFrom
    by_cases h : x = s
    · subst h; simp
    · have h' : ¬ s = x := fun e => h e.symm
      simp [h, h', placeFrom_neg s r (k + 1)]

theorem strEq (a b : ByteArray) : (a.toList == b.toList) = decide (a = b) := by
  rw [ByteArray.toList_eq, ByteArray.toList_eq, Bool.eq_iff_iff]
  cases a; cases b
  simp

theorem drop_names {l : List RG} {k : Nat} {g : RG} (h : l[k]? = some g) : (l.map (·.name)).drop k = g.name :: (l.map (·.name)).drop (k + 1) := by
  have hk : k < (l.map (·.name)).length := by simp; exact (List.getElem?_eq_some_iff.1 h).1
  rw [List.drop_eq_getElem_cons hk]
  congr 1
  have := (List.getElem?_eq_some_iff.1 h)
  obtain ⟨h1, h2⟩ := this
  simp [h2]

set_option maxRecDepth 100000 in
set_option maxHeartbeats 1000000 in
theorem yat_any (i b : Nat) (q : RQ) (s : ByteArray) (w : World) (T : Nat → Tag) (hy : YQ w T i b q) :
    Calls Try.prog 58 #[.pointer (some ⟨b, 0, none⟩), .string s] w fun e w' => e = .returned (.int .i64 (placeOf s (q.groups.map (·.name)))) ∧ w' = w := by
  obtain ⟨h1, h2, _, vB, vG, vi, vd, hB, hR, hG, hI⟩ := hy
  obtain ⟨ao, cap, rfl⟩ := row_form hG
  have c6 := hB.cell (j := 6) rfl
  simp only [List.getElem_toArray, List.getElem_cons_succ, List.getElem_cons_zero] at c6
  go_enter Try.func58, Try.ntmps58
  go_wp2
  go_loopw [5] (fun x wr => ∃ k : Nat, k ≤ q.groups.length ∧ x = .int .i64 k ∧ wr = w ∧ Hid (placeOf s (q.groups.map (·.name)) = placeFrom s ((q.groups.map (·.name)).drop k) k)) (fun x _ => q.groups.length - (intOf x).toNat)
  case atStart => exact ⟨0, Nat.zero_le _, rfl, rfl, hide rfl⟩
  case round =>
    obtain ⟨k, hk, rfl, rfl, hp⟩ := hrel
    by_cases hlt : k < q.groups.length
    · obtain ⟨g, hg⟩ : ∃ g, q.groups[k]? = some g := ⟨_, List.getElem?_eq_getElem hlt⟩
      obtain ⟨gb, gc, e⟩ := row_some hG (by omega)
      cases e
      have d0 := hG.cell (groupCells_at q.groups vi vd k g hg).1
      have e0 := drop_names hg
      rw [e0] at hp
      clear hB hR hI hG e0
      by_cases hs : g.name = s
      · have hq : (g.name.toList == s.toList) = true := by rw [strEq]; simp [hs]
        go_wp2
        go_ret
        refine ⟨?_, rfl⟩
        rw [hp.out]
        simp [placeFrom, hs]
      · have hq : (g.name.toList == s.toList) = false := by rw [strEq]; simp [hs]
        go_wp2
        refine ⟨⟨k + 1, by omega, by simp, trivial, ?_⟩, by simp [intOf]; omega⟩
        show _ = _
        rw [hp.out]
        simp [placeFrom, hs]
    · have hk2 : k = q.groups.length := by omega
      go_wp2
      go_ret
      refine ⟨?_, rfl⟩
      rw [hp.out, List.drop_eq_nil_of_le (by simp; omega)]
      rfl

end Go.Proofs.Ytedbcmlekjagpaa

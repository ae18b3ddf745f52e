/- Contracts of the small functions of packages quay, quayref and quaylaw that look at numbers alone: between, isName, isConfig, Good, pick. -/
import Derived.Test.YtockkceclkcgbaaGreatDoorRows
import Derived.Test.YtockkceclkcgbaaGreatDoorB01
namespace Go.Proofs.YtockkceclkcgbaaGreatDoor
open Go.RowKit

/-- A configuration: lease, deliveries, segment, kept. -/
structure Conf where
  l : Int
  d : Int
  s : Int
  k : Int

abbrev Conf.cells (c : Conf) : Array Value := #[.int .i64 c.l, .int .i64 c.d, .int .i64 c.s, .int .i64 c.k]

def btw (n a b : Int) : Bool := decide (a ≤ n ∧ n ≤ b)
def goodC (c : Conf) : Bool := btw c.l 1 60000 && (btw c.d 1 10 && (btw c.s 1 16 && btw c.k c.s 100))

theorem ret_boolO {p q : Bool} (h : p = q) : Ending.returned (.bool p) = .returned (.bool q) := by rw [h]
theorem btw_true {n a b : Int} (h : btw n a b = true) : a ≤ n ∧ n ≤ b := by simpa [btw] using h
theorem btw_false {n a b : Int} (h : btw n a b = false) : ¬ (a ≤ n ∧ n ≤ b) := by simpa [btw] using h

set_option maxHeartbeats 400000 in
theorem between_any (n a b : Int) (w : World) :
    Calls Tryz.prog 68 #[.int .i64 n, .int .i64 a, .int .i64 b] w fun e w' => e = .returned (.bool (btw n a b)) ∧ Below w.heap.size w w' := by
  by_cases h1 : a ≤ n
  · by_cases h2 : n ≤ b
    all_goals
      go_enter Tryz.func68, Tryz.ntmps68
      go_wp2
      go_ret
      exact ⟨by simp [btw]; omega, Below.refl _ _⟩
  · go_enter Tryz.func68, Tryz.ntmps68
    go_wp2
    go_ret
    exact ⟨by simp [btw]; omega, Below.refl _ _⟩

set_option maxHeartbeats 400000 in
theorem isName_any (s : ByteArray) (w : World) :
    Calls Tryz.prog 139 #[.string s] w fun e w' => e = .returned (.bool (btw s.size 1 16)) ∧ Below w.heap.size w w' := by
  go_enter Tryz.func139, Tryz.ntmps139
  go_wp2_with fail
  refine (between_any _ _ _ _).mono ?_
  rintro e w1 ⟨rfl, hb⟩
  go_wp2
  go_ret
  exact ⟨rfl, hb⟩

set_option maxHeartbeats 1000000 in
theorem isConfig_any (c : Conf) (w : World) :
    Calls Tryz.prog 62 #[.agg c.cells] w fun e w' => e = .returned (.bool (goodC c)) ∧ Below w.heap.size w w' := by
  obtain ⟨l, d, s, k⟩ := c
  have hstep : ∀ {w1 w2 : World} {b : Nat}, Below w1.heap.size w1 w2 → b < w1.heap.size → b < w2.heap.size ∧ ∀ j, w2.cell? ⟨b, j, none⟩ = w1.cell? ⟨b, j, none⟩ := fun h hb => ⟨Nat.lt_of_lt_of_le hb h.size, fun j => h.cell (p := ⟨_, j, none⟩) hb⟩
  have hfin : ∀ {w1 : World} {o : Obj}, Below (w.alloc o).heap.size (w.alloc o) w1 → Below w.heap.size w w1 := fun h => ((Below.refl _ _).alloc (Nat.le_refl _) _).trans (h.mono (by simp))
  go_enter Tryz.func62, Tryz.ntmps62
  go_wp2_with fail
  refine (between_any _ _ _ _).mono ?_
  rintro e w1 ⟨rfl, hb1⟩
  have q1 : ∀ j, w1.cell? ⟨w.heap.size, j, none⟩ = _ := (hstep hb1 (b := w.heap.size) (by simp)).2
  have f1 := hfin hb1
  have hz1 := hb1.size
  cases h1 : btw l 1 60000
  · go_wp2
    go_ret
    exact ⟨by simp [goodC, h1], f1⟩
  go_wp2_with fail
  refine (between_any _ _ _ _).mono ?_
  rintro e w2 ⟨rfl, hb2⟩
  have q2 : ∀ j, w2.cell? ⟨w.heap.size, j, none⟩ = _ := (hstep hb2 (b := w.heap.size) (by simp at hz1; omega)).2
  have f2 := f1.trans (hb2.mono f1.size)
  cases h2 : btw d 1 10
  · go_wp2
    go_ret
    exact ⟨by simp [goodC, h1, h2], f2⟩
  have hz2 := hb2.size
  go_wp2_with fail
  refine (between_any _ _ _ _).mono ?_
  rintro e w3 ⟨rfl, hb3⟩
  have q3 : ∀ j, w3.cell? ⟨w.heap.size, j, none⟩ = _ := (hstep hb3 (b := w.heap.size) (by simp at hz1; omega)).2
  have f3 := f2.trans (hb3.mono f2.size)
  cases h3 : btw s 1 16
  · go_wp2
    go_ret
    exact ⟨by simp [goodC, h1, h2, h3], f3⟩
  go_wp2_with fail
  refine (between_any _ _ _ _).mono ?_
  rintro e w4 ⟨rfl, hb4⟩
  go_wp2
  go_ret
  exact ⟨by simp [goodC, h1, h2, h3], f3.trans (hb4.mono f3.size)⟩

set_option maxHeartbeats 1000000 in
theorem good_any (c : Conf) (w : World) :
    Calls Tryz.prog 39 #[.agg c.cells] w fun e w' => e = .returned (.bool (goodC c)) ∧ Below w.heap.size w w' := by
  obtain ⟨l, d, s, k⟩ := c
  by_cases h1 : 1 ≤ l
  · by_cases h2 : l ≤ 60000
    · by_cases h3 : 1 ≤ d
      · by_cases h4 : d ≤ 10
        · by_cases h5 : 1 ≤ s
          · by_cases h6 : s ≤ 16
            · by_cases h7 : s ≤ k
              · by_cases h8 : k ≤ 100
                all_goals
                  go_enter Tryz.func39, Tryz.ntmps39
                  go_wp2
                  go_ret
                  exact ⟨by simp [goodC, btw]; omega, (Below.refl _ _).alloc (Nat.le_refl _) _⟩
              · go_enter Tryz.func39, Tryz.ntmps39
                go_wp2
                go_ret
                exact ⟨by simp [goodC, btw]; omega, (Below.refl _ _).alloc (Nat.le_refl _) _⟩
            · go_enter Tryz.func39, Tryz.ntmps39
              go_wp2
              go_ret
              exact ⟨by simp [goodC, btw]; omega, (Below.refl _ _).alloc (Nat.le_refl _) _⟩
          · go_enter Tryz.func39, Tryz.ntmps39
            go_wp2
            go_ret
            exact ⟨by simp [goodC, btw]; omega, (Below.refl _ _).alloc (Nat.le_refl _) _⟩
        · go_enter Tryz.func39, Tryz.ntmps39
          go_wp2
          go_ret
          exact ⟨by simp [goodC, btw]; omega, (Below.refl _ _).alloc (Nat.le_refl _) _⟩
      · go_enter Tryz.func39, Tryz.ntmps39
        go_wp2
        go_ret
        exact ⟨by simp [goodC, btw]; omega, (Below.refl _ _).alloc (Nat.le_refl _) _⟩
    · go_enter Tryz.func39, Tryz.ntmps39
      go_wp2
      go_ret
      exact ⟨by simp [goodC, btw]; omega, (Below.refl _ _).alloc (Nat.le_refl _) _⟩
  · go_enter Tryz.func39, Tryz.ntmps39
    go_wp2
    go_ret
    exact ⟨by simp [goodC, btw]; omega, (Below.refl _ _).alloc (Nat.le_refl _) _⟩

/-- which of n things the raw number speaks of -/
def pickQ (c n : Int) : Int := if c < 0 then -((c + 1).tmod n) else c.tmod n

theorem pickQ_range (c n : Int) (hn : 1 ≤ n) : 0 ≤ pickQ c n ∧ pickQ c n < n := by
  unfold pickQ
  split
  · have h1 := Int.tmod_nonneg (a := -(c + 1)) n (by omega)
    have h2 := Int.tmod_lt_of_pos (-(c + 1)) (b := n) (by omega)
    rw [Int.neg_tmod] at h1 h2
    omega
  · have h1 := Int.tmod_nonneg (a := c) n (by omega)
    have h2 := Int.tmod_lt_of_pos c (b := n) (by omega)
    omega

set_option maxHeartbeats 400000 in
theorem pickq_any (c n : Int) (w : World) (h0 : -9223372036854775808 ≤ c) (h1 : c ≤ 9223372036854775807) (hn : 1 ≤ n) (hn1 : n ≤ 9223372036854775807) :
    Calls Tryz.prog 38 #[.int .i64 c, .int .i64 n] w fun e w' => e = .returned (.int .i64 (pickQ c n)) ∧ Below w.heap.size w w' := by
  by_cases hc : c < 0
  · go_enter Tryz.func38, Tryz.ntmps38
    go_wp2
    go_ret
    exact ⟨by simp [pickQ, hc], Below.refl _ _⟩
  · go_enter Tryz.func38, Tryz.ntmps38
    go_wp2
    go_ret
    refine ⟨?_, Below.refl _ _⟩
    rw [pickQ, if_neg (by omega), Int.tmod_eq_emod_of_nonneg hc]; rfl

end Go.Proofs.YtockkceclkcgbaaGreatDoor

/- The document's queue as it lies in memory: its cells, its bodies, its groups with their items; contracts of at and Enqueue. -/
namespace Go.Proofs.YtockkceclkcgbaaGreatDoor
open Go.RowKit

/-- A group of the document's queue: its name, its start, the cells of its items (four each), the dead ones' offsets. -/
structure RG where
  name : ByteArray
  start : Int
  items : List Value
  dead : List Value

/-- The document's queue. -/
structure RQ where
  c : Conf
  bodies : List Value
  floor : Int
  groups : List RG
  time : Int
  changes : Int

/-- the cells of the groups, their items' and their dead ones' lists given -/
def groupCells : List RG → (Nat → Value) → (Nat → Value) → List Value
  | [], _, _ => []
  | g :: r, vi, vd => .string g.name :: .int .i64 g.start :: vi 0 :: vd 0 :: groupCells r (fun k => vi (k + 1)) (fun k => vd (k + 1))

theorem groupCells_length : ∀ (l : List RG) (vi vd : Nat → Value), (groupCells l vi vd).length = l.length * 4
  | [], _, _ => rfl
  | g :: r, vi, vd => by simp [groupCells, groupCells_length r]; omega
theorem groupCells_at : ∀ (l : List RG) (vi vd : Nat → Value) (k : Nat) (g : RG), l[k]? = some g →
    (groupCells l vi vd)[k * 4]? = some (.string g.name) ∧ (groupCells l vi vd)[k * 4 + 1]? = some (.int .i64 g.start) ∧ (groupCells l vi vd)[k * 4 + 2]? = some (vi k) ∧ (groupCells l vi vd)[k * 4 + 3]? = some (vd k)
  | [], _, _, _, _, h => by simp at h
  | g :: r, vi, vd, 0, x, h => by simp at h; subst h; simp [groupCells]
  | g :: r, vi, vd, k + 1, x, h => by
    have h2 := groupCells_at r (fun k => vi (k + 1)) (fun k => vd (k + 1)) k x (by simpa using h)
    have e : ∀ j, (k + 1) * 4 + j = (k * 4 + j) + 4 := fun j => by omega
    refine ⟨?_, ?_, ?_, ?_⟩
    · rw [show (k + 1) * 4 = k * 4 + 4 by omega]; simpa [groupCells] using h2.1
    · rw [e]; simpa [groupCells] using h2.2.1
    · rw [e]; simpa [groupCells] using h2.2.2.1
    · rw [e]; simpa [groupCells] using h2.2.2.2
theorem groupCells_snoc : ∀ (l : List RG) (vi vd : Nat → Value) (g : RG), groupCells (l ++ [g]) vi vd = groupCells l vi vd ++ [.string g.name, .int .i64 g.start, vi l.length, vd l.length]
  | [], _, _, _ => rfl
  | x :: r, vi, vd, g => by simp [groupCells, groupCells_snoc r]
theorem groupCells_congr : ∀ (l l' : List RG) (vi vd vi' vd' : Nat → Value), l'.map (fun g => (g.name, g.start)) = l.map (fun g => (g.name, g.start)) → (∀ k, k < l.length → vi' k = vi k) → (∀ k, k < l.length → vd' k = vd k) → groupCells l' vi' vd' = groupCells l vi vd
  | [], [], _, _, _, _, _, _, _ => rfl
  | [], _ :: _, _, _, _, _, h, _, _ => by simp at h
  | _ :: _, [], _, _, _, _, h, _, _ => by simp at h
  | g :: r, g' :: r', vi, vd, vi', vd', h, h1, h2 => by
    simp at h
    simp only [groupCells]
    rw [h.1.1, h.1.2, h1 0 (by simp), h2 0 (by simp), groupCells_congr r r' (fun k => vi (k + 1)) (fun k => vd (k + 1)) _ _ (by simpa using h.2) (fun k hk => h1 (k + 1) (by simp; omega)) (fun k hk => h2 (k + 1) (by simp; omega))]
/-- one group's list of items is another value now -/
theorem groupCells_items : ∀ (l : List RG) (vi vd : Nat → Value) (k : Nat) (v : Value), k < l.length → (groupCells l vi vd).set (k * 4 + 2) v = groupCells l (fun j => if j = k then v else vi j) vd
  | [], _, _, _, _, h => by simp at h
  | g :: r, vi, vd, 0, v, _ => by simp [groupCells]
  | g :: r, vi, vd, k + 1, v, h => by
    have h2 := groupCells_items r (fun k => vi (k + 1)) (fun k => vd (k + 1)) k v (by simpa using h)
    rw [show (k + 1) * 4 + 2 = (k * 4 + 2) + 4 by omega]
    simp [groupCells, h2]

/-- The lists of one group: its items' row and its dead ones' row, each with a tag of its own. -/
def GrpAt (w : World) (T : Nat → Tag) (i k : Nat) (g : RG) (n : Nat) (vi vd : Value) : Prop :=
  Row w T (.y i 3 k) 111 4 vi n g.items ∧ Row w T (.y i 4 k) 3 1 vd g.dead.length g.dead

/-- The document's queue of number i, in block b. -/
structure YQ (w : World) (T : Nat → Tag) (i b : Nat) (q : RQ) : Prop where
  small : q.bodies.length ≤ 400
  few : q.groups.length ≤ 6
  fl : 0 ≤ q.floor ∧ q.floor ≤ q.bodies.length
  mem : ∃ vB vG vi vd, Blk w T (.y i 0 0) b #[.int .i64 q.c.l, .int .i64 q.c.d, .int .i64 q.c.s, .int .i64 q.c.k, vB, .int .i64 q.floor, vG, .int .i64 q.time, .int .i64 q.changes] 95 ∧
    Row w T (.y i 1 0) 9 1 vB q.bodies.length q.bodies ∧ Row w T (.y i 2 0) 109 4 vG q.groups.length (groupCells q.groups vi vd) ∧
    ∀ k g, q.groups[k]? = some g → GrpAt w T i k g q.bodies.length (vi k) (vd k)

theorem GrpAt.step {S : Tag → Prop} {w w' : World} {T T' : Nat → Tag} {i k : Nat} {g : RG} {n : Nat} {vi vd : Value} (h : GrpAt w T i k g n vi vd) (hs : Step S w T w' T') (h3 : ¬ S (.y i 3 k)) (h4 : ¬ S (.y i 4 k)) : GrpAt w' T' i k g n vi vd :=
  ⟨h.1.step hs h3, h.2.step hs h4⟩
theorem YQ.step {S : Tag → Prop} {w w' : World} {T T' : Nat → Tag} {i b : Nat} {q : RQ} (h : YQ w T i b q) (hs : Step S w T w' T') (hS : ∀ r k, ¬ S (.y i r k)) : YQ w' T' i b q := by
  obtain ⟨h1, h2, h3, vB, vG, vi, vd, hB, hR, hG, hI⟩ := h
  exact ⟨h1, h2, h3, vB, vG, vi, vd, hB.step hs (hS _ _), hR.step hs (hS _ _), hG.step hs (hS _ _), fun k g hk => (hI k g hk).step hs (hS _ _) (hS _ _)⟩

/-- the place of a name; -1: there is none -/
def placeFrom (s : ByteArray) : List ByteArray → Nat → Int
  | [], _ => -1
  | x :: r, k => bif decide (x = s) then k else placeFrom s r (k + 1)
def placeOf (s : ByteArray) (names : List ByteArray) : Int := placeFrom s names 0
theorem placeFrom_neg (s : ByteArray) : ∀ (l : List ByteArray) (k : Nat), (0 ≤ placeFrom s l k ↔ s ∈ l)
  | [], k => by simp [placeFrom]
  | x :: r, k => by
    unfold placeFrom
    by_cases h : x = s
    · subst h; simp
    · have h' : ¬ s = x := fun e => h e.symm
      simp [h, h', placeFrom_neg s r (k + 1)]

theorem strEq (a b : ByteArray) : (a.toList == b.toList) = decide (a = b) := by
  rw [ByteArray.toList_eq, ByteArray.toList_eq, Bool.eq_iff_iff]
  cases a; cases b
  simp

theorem drop_names {l : List RG} {k : Nat} {g : RG} (h : l[k]? = some g) : (l.map (·.name)).drop k = g.name :: (l.map (·.name)).drop (k + 1) := by
  have hk : k < (l.map (·.name)).length := by simp; exact (List.getElem?_eq_some_iff.1 h).1
  rw [List.drop_eq_getElem_cons hk]
  congr 1
  have := (List.getElem?_eq_some_iff.1 h)
  obtain ⟨h1, h2⟩ := this
  simp [h2]

set_option maxRecDepth 100000 in
set_option maxHeartbeats 1000000 in
theorem yat_any (i b : Nat) (q : RQ) (s : ByteArray) (w : World) (T : Nat → Tag) (hy : YQ w T i b q) :
    Calls Tryz.prog 85 #[.pointer (some ⟨b, 0, none⟩), .string s] w fun e w' => e = .returned (.int .i64 (placeOf s (q.groups.map (·.name)))) ∧ w' = w := by
  obtain ⟨h1, h2, _, vB, vG, vi, vd, hB, hR, hG, hI⟩ := hy
  obtain ⟨ao, cap, rfl⟩ := row_form hG
  have c6 := hB.cell (j := 6) rfl
  simp only [List.getElem_toArray, List.getElem_cons_succ, List.getElem_cons_zero] at c6
  go_enter Tryz.func85, Tryz.ntmps85
  go_wp2
  go_loopw [5] (fun x wr => ∃ k : Nat, k ≤ q.groups.length ∧ x = .int .i64 k ∧ wr = w ∧ Hid (placeOf s (q.groups.map (·.name)) = placeFrom s ((q.groups.map (·.name)).drop k) k)) (fun x _ => q.groups.length - (intOf x).toNat)
  case atStart => exact ⟨0, Nat.zero_le _, rfl, rfl, hide rfl⟩
  case round =>
    obtain ⟨k, hk, rfl, rfl, hp⟩ := hrel
    by_cases hlt : k < q.groups.length
    · obtain ⟨g, hg⟩ : ∃ g, q.groups[k]? = some g := ⟨_, List.getElem?_eq_getElem hlt⟩
      obtain ⟨gb, gc, e⟩ := row_some hG (by omega)
      cases e
      have d0 := hG.cell (groupCells_at q.groups vi vd k g hg).1
      have e0 := drop_names hg
      rw [e0] at hp
      clear hB hR hI hG e0
      by_cases hs : g.name = s
      · have hq : (g.name.toList == s.toList) = true := by rw [strEq]; simp [hs]
        go_wp2
        go_ret
        refine ⟨?_, rfl⟩
        rw [hp.out]
        simp [placeFrom, hs]
      · have hq : (g.name.toList == s.toList) = false := by rw [strEq]; simp [hs]
        go_wp2
        refine ⟨⟨k + 1, by omega, by simp, trivial, ?_⟩, by simp [intOf]; omega⟩
        show _ = _
        rw [hp.out]
        simp [placeFrom, hs]
    · have hk2 : k = q.groups.length := by omega
      go_wp2
      go_ret
      refine ⟨?_, rfl⟩
      rw [hp.out, List.drop_eq_nil_of_le (by simp; omega)]
      rfl

end Go.Proofs.YtockkceclkcgbaaGreatDoor

/- The contract of the document's Enqueue. -/
namespace Go.Proofs.YtockkceclkcgbaaGreatDoor
open Go.RowKit

def enqY (len n : Nat) (fl kept : Int) : Int := bif decide (64 < len) then 3 else bif decide (400 ≤ n) then 5 else bif decide (kept ≤ n - fl) then 4 else 0
def zero4 : List Value := [.int .i64 0, .int .i64 0, .int .i64 0, .int .i64 0]
def growG (g : RG) : RG := { g with items := g.items ++ zero4 }
def enqQ (q : RQ) (s : ByteArray) : RQ :=
  bif decide (enqY s.size q.bodies.length q.floor q.c.k = 0) then { q with bodies := q.bodies ++ [.string s], groups := q.groups.map growG, changes := wrap64 (q.changes + 1) } else q

/-- The document's queue while Enqueue goes through its groups: those before k have their new item. -/
structure EnqL (w : World) (T : Nat → Tag) (wr : World) (T' : Nat → Tag) (i b : Nat) (q : RQ) (s : ByteArray) (vB vG : Value) (vi vd : Nat → Value) (k : Nat) : Prop where
  step : Step (fun t => ∃ r j, t = .y i r j) w T wr T'
  blk : Blk wr T' (.y i 0 0) b #[.int .i64 q.c.l, .int .i64 q.c.d, .int .i64 q.c.s, .int .i64 q.c.k, vB, .int .i64 q.floor, vG, .int .i64 q.time, .int .i64 q.changes] 95
  bod : Row wr T' (.y i 1 0) 9 1 vB (q.bodies.length + 1) (q.bodies ++ [.string s])
  grp : Row wr T' (.y i 2 0) 109 4 vG q.groups.length (groupCells q.groups vi vd)
  its : ∀ j g, q.groups[j]? = some g → (j < k → GrpAt wr T' i j (growG g) (q.bodies.length + 1) (vi j) (vd j)) ∧ (k ≤ j → GrpAt wr T' i j g q.bodies.length (vi j) (vd j))

theorem EnqL.below {w wr w' : World} {T T' : Nat → Tag} {i b : Nat} {q : RQ} {s : ByteArray} {vB vG : Value} {vi vd : Nat → Value} {k : Nat} (h : EnqL w T wr T' i b q s vB vG vi vd k) (hb : Below wr.heap.size wr w') : EnqL w T w' T' i b q s vB vG vi vd k := by
  have hs := step_below (fun _ => False) T' hb
  exact ⟨h.step.trans (step_below _ T' hb), h.blk.step hs (fun h => h), h.bod.step hs (fun h => h), h.grp.step hs (fun h => h), fun j g hj => ⟨fun a => ((h.its j g hj).1 a).step hs (fun h => h) (fun h => h), fun a => ((h.its j g hj).2 a).step hs (fun h => h) (fun h => h)⟩⟩

theorem EnqL.round {w wr w3 : World} {T T' T3 : Nat → Tag} {i b : Nat} {q : RQ} {s : ByteArray} {vB : Value} {vi vd : Nat → Value} {k gb cap : Nat} {v : Value} {g : RG} (h : EnqL w T wr T' i b q s vB (.slice (some ⟨gb, 0, none⟩) q.groups.length cap) vi vd k)
    (hg : q.groups[k]? = some g) (hs : Step (fun t => t = .y i 3 k) wr T' w3 T3) (hr : Row w3 T3 (.y i 3 k) 111 4 v (q.bodies.length + 1) (g.items ++ zero4)) :
    EnqL w T (w3.setCell ⟨gb, k * 4 + 2, none⟩ v) T3 i b q s vB (.slice (some ⟨gb, 0, none⟩) q.groups.length cap) (fun j => if j = k then v else vi j) vd (k + 1) := by
  have hk : k < q.groups.length := (List.getElem?_eq_some_iff.1 hg).1
  have hg3 := h.grp.step hs (by simp)
  have hset := hg3.set (j := k * 4 + 2) (by rw [groupCells_length]; omega) v
  rw [groupCells_items _ _ _ _ _ hk] at hset
  have hs4 : Step (fun t => t = .y i 2 0) w3 T3 (w3.setCell ⟨gb, k * 4 + 2, none⟩ v) T3 := step_setCell _ _ _ _ _ (hg3.2 gb rfl)
  refine ⟨(h.step.trans (hs.mono (fun t ht => ⟨3, k, ht⟩))).trans (hs4.mono (fun t ht => ⟨2, 0, ht⟩)), (h.blk.step hs (by simp)).step hs4 (by simp), (h.bod.step hs (by simp)).step hs4 (by simp), hset, fun j x hj => ?_⟩
  by_cases hjk : j = k
  · subst hjk
    rw [hg] at hj
    cases hj
    refine ⟨fun _ => ?_, fun h => by omega⟩
    have h0 := (h.its j g hg).2 (Nat.le_refl _)
    exact ⟨by simpa [growG] using hr.step hs4 (by simp), (h0.2.step hs (by simp)).step hs4 (by simp)⟩
  · simp only [if_neg hjk]
    exact ⟨fun a => (((h.its j x hj).1 (by omega)).step hs (by simp [hjk]) (by simp)).step hs4 (by simp) (by simp), fun a => (((h.its j x hj).2 (by omega)).step hs (by simp [hjk]) (by simp)).step hs4 (by simp) (by simp)⟩

theorem EnqL.done {w wr : World} {T T' : Nat → Tag} {i b : Nat} {q : RQ} {s : ByteArray} {vB vG : Value} {vi vd : Nat → Value} (h : EnqL w T wr T' i b q s vB vG vi vd q.groups.length) (hsm : q.bodies.length < 400) (hfew : q.groups.length ≤ 6) (hfl : 0 ≤ q.floor ∧ q.floor ≤ q.bodies.length) :
    Step (fun t => ∃ r j, t = .y i r j) w T (wr.setCell ⟨b, 8, none⟩ (.int .i64 (wrap64 (q.changes + 1)))) T' ∧
    YQ (wr.setCell ⟨b, 8, none⟩ (.int .i64 (wrap64 (q.changes + 1)))) T' i b { q with bodies := q.bodies ++ [.string s], groups := q.groups.map growG, changes := wrap64 (q.changes + 1) } := by
  have hs4 : Step (fun t => t = .y i 0 0) wr T' (wr.setCell ⟨b, 8, none⟩ (.int .i64 (wrap64 (q.changes + 1)))) T' := step_setCell _ _ _ _ _ h.blk.1
  refine ⟨h.step.trans (hs4.mono (fun t ht => ⟨0, 0, ht⟩)), by simp; omega, by simp; exact hfew, by simp; omega, vB, vG, vi, vd, h.blk.set 8 _, ?_, ?_, ?_⟩
  · simpa using h.bod.step hs4 (by simp)
  · have h0 := h.grp.step hs4 (by simp)
    have e : groupCells (q.groups.map growG) vi vd = groupCells q.groups vi vd := groupCells_congr _ _ _ _ _ _ (by simp [growG, Function.comp_def]) (fun _ _ => rfl) (fun _ _ => rfl)
    simpa [e] using h0
  · intro k x hx
    simp only [List.getElem?_map, Option.map_eq_some_iff] at hx
    obtain ⟨g, hg, rfl⟩ := hx
    have h0 := ((h.its k g hg).1 (List.getElem?_eq_some_iff.1 hg).1).step hs4 (by simp) (by simp)
    simpa using h0

theorem cells_new (w : World) (xs : List Value) (t : TypeId) : ∀ j u, xs[j]? = some u → (w.alloc (.cells xs.toArray t)).cell? ((⟨w.heap.size, 0, none⟩ : Addr).add j) = some u := by
  intro j u hj
  have h := heap_alloc_new w (.cells xs.toArray t)
  rw [Addr.add_lit, Nat.zero_add]
  unfold World.cell?
  simp only [h]
  simpa using hj

attribute [local go_sem] over_cell

theorem info9y : (Tryz.prog.info? 9).map (fun i => (i.zero, i.size, i.bytes)) = some (some (.string ⟨#[]⟩), 1, 16) := by kernel_rfl
theorem info93 : (Tryz.prog.info? 111).map (fun i => (i.zero, i.size, i.bytes)) = some (some (.agg #[.int .i64 0, .int .i64 0, .int .i64 0, .int .i64 0]), 4, 32) := by kernel_rfl

set_option maxRecDepth 100000 in
set_option maxHeartbeats 4000000 in
theorem yenqueue_any (i b : Nat) (q : RQ) (s : ByteArray) (w : World) (T : Nat → Tag) (hy : YQ w T i b q) :
    Calls Tryz.prog 15 #[.pointer (some ⟨b, 0, none⟩), .string s] w fun e w' => e = .returned (.tuple #[.int .i64 (bif decide (enqY s.size q.bodies.length q.floor q.c.k = 0) then (q.bodies.length : Int) else 0), .int .i64 (enqY s.size q.bodies.length q.floor q.c.k)]) ∧
      ∃ T', Step (fun t => ∃ r j, t = .y i r j) w T w' T' ∧ YQ w' T' i b (enqQ q s) := by
  have hy0 := hy
  obtain ⟨hsm, hfew, hfl, vB, vG, vi, vd, hB, hR, hG, hI⟩ := hy
  obtain ⟨bo, bc, rfl⟩ := row_form hR
  have hlt := hB.lt
  have c3 := hB.cell (j := 3) rfl
  have c4 := hB.cell (j := 4) rfl
  have c5 := hB.cell (j := 5) rfl
  simp only [List.getElem_toArray, List.getElem_cons_succ, List.getElem_cons_zero] at c3 c4 c5
  by_cases h1 : 64 < s.size
  · go_enter Tryz.func15, Tryz.ntmps15
    go_wp2
    go_ret2
    exact ⟨by simp [enqY, h1], T, Step.refl _ _ _, by simpa [enqQ, enqY, h1] using hy0⟩
  by_cases h2 : 400 ≤ q.bodies.length
  · go_enter Tryz.func15, Tryz.ntmps15
    go_wp2
    go_ret2
    exact ⟨by simp [enqY, h1, h2], T, Step.refl _ _ _, by simpa [enqQ, enqY, h1, h2] using hy0⟩
  obtain ⟨i0, hi, hz0, hz1, hz2⟩ := info_parts info9y
  obtain ⟨j0, hj, hj0, hj1, hj2⟩ := info_parts info93
  go_enter Tryz.func15, Tryz.ntmps15
  go_wp2_with fail
  refine wp_region_over (by kernel_rfl) (by kernel_rfl) ?_
  repeat (go_big_quiet_step (fail))
  refine wpQuiet_nil ?_
  rintro _ ⟨x, rfl⟩
  have hb2 := over_below w x
  generalize over w x = w2 at *
  have g2 := step_below (fun _ => False) T hb2
  have f1 : Step (fun t => ∃ r j, t = .y i r j) w T w2 T := step_below _ T hb2
  replace hy0 := hy0.step g2 (fun _ _ h => h)
  replace hB := hB.step g2 (fun h => h)
  replace hR := hR.step g2 (fun h => h)
  replace hG := hG.step g2 (fun h => h)
  replace hI := fun k g hk => (hI k g hk).step g2 (fun h => h) (fun h => h)
  clear c3 c4 c5 hlt g2 hb2
  by_cases h3 : q.c.k ≤ q.bodies.length - q.floor
  · go_wp2
    go_ret2
    exact ⟨by simp [enqY, h1, h2, h3], T, f1, by simpa [enqQ, enqY, h1, h2, h3] using hy0⟩
  have e0 : enqY s.size q.bodies.length q.floor q.c.k = 0 := by simp [enqY, h1, h2, h3]
  have hlt := hB.lt
  have c4 := hB.cell (j := 4) rfl
  simp only [List.getElem_toArray, List.getElem_cons_succ, List.getElem_cons_zero] at c4
  have hal := step_alloc w2 T (.cells #[.string s] 9) (fun _ => False)
  have hR1 := hR.step hal (fun h => h)
  have hB1 := hB.step hal (fun h => h)
  go_wp2_with (first
    | (at_builtin; refine wpList_append_row rfl _ _ 54 rfl 9 i0 (.string ⟨#[]⟩) 1 16 Tryz.underlying54 hi hz0 hz1 hz2 rfl (by decide) _ _ _ rfl hR1 ⟨w2.heap.size, 0, none⟩ 1 1 [.string s] rfl rfl (cell_one_new _ _ _) (by simp [Value.oneCell']) (by decide) (by unfold maxLen; omega) (by omega) ?_; intro g cap' w3 T3 hR3 hs3; have hB3 := hB1.step hs3 (by simp); have d4 := hB3.cell (j := 4) rfl; have e4 := hB3.frozen 4)
    | go_in)
  have hs4 : Step (fun t => t = .y i 0 0) w3 T3 (w3.setCell ⟨b, 4, none⟩ (.slice (some ⟨g, 0, none⟩) (q.bodies.length + 1) cap')) T3 := step_setCell _ _ _ _ _ hB3.1
  have hL : EnqL w T (w3.setCell ⟨b, 4, none⟩ (.slice (some ⟨g, 0, none⟩) (q.bodies.length + 1) cap')) T3 i b q s (.slice (some ⟨g, 0, none⟩) (q.bodies.length + 1) cap') vG vi vd 0 :=
    ⟨f1.trans ((step_alloc _ _ _ _).trans ((hs3.mono (fun t ht => ⟨1, 0, ht⟩)).trans (hs4.mono (fun t ht => ⟨0, 0, ht⟩)))), hB3.set 4 _, hR3.step hs4 (by simp), ((hG.step hal (fun h => h)).step hs3 (by simp)).step hs4 (by simp),
      fun j x hj => ⟨fun h => by omega, fun _ => (((hI j x hj).step hal (fun h => h) (fun h => h)).step hs3 (by simp) (by simp)).step hs4 (by simp) (by simp)⟩⟩
  clear hB hR hG hI hR1 hB1 hB3 hR3 hs3 hs4 hal d4 e4 c4 hlt hy0 f1
  generalize w3.setCell ⟨b, 4, none⟩ (.slice (some ⟨g, 0, none⟩) (q.bodies.length + 1) cap') = w4 at *
  go_loopw [7] (fun x wr => ∃ (k : Nat) (T' : Nat → Tag) (vj : Nat → Value), k ≤ q.groups.length ∧ x = .int .i64 k ∧ EnqL w T wr T' i b q s (.slice (some ⟨g, 0, none⟩) (q.bodies.length + 1) cap') vG vj vd k) (fun x _ => q.groups.length - (intOf x).toNat)
  case atStart => exact ⟨0, T3, vi, Nat.zero_le _, rfl, hL⟩
  case round =>
    obtain ⟨k, T', vj, hk, rfl, hI⟩ := hrel
    obtain ⟨go, gc, rfl⟩ := row_form hI.grp
    have c6 := hI.blk.cell (j := 6) rfl
    simp only [List.getElem_toArray, List.getElem_cons_succ, List.getElem_cons_zero] at c6
    by_cases hlt : k < q.groups.length
    · obtain ⟨x, hx⟩ : ∃ x, q.groups[k]? = some x := ⟨_, List.getElem?_eq_getElem hlt⟩
      obtain ⟨gb, gc', e⟩ := row_some hI.grp (by omega)
      cases e
      have d2 := hI.grp.cell (groupCells_at q.groups vj vd k x hx).2.2.1
      have hit := ((hI.its k x hx).2 (Nat.le_refl _)).1
      have hal := step_alloc wr.drew T' (.cells #[.int .i64 0, .int .i64 0, .int .i64 0, .int .i64 0] 111) (fun _ => False)
      have hI1 := hI.below (w' := wr.drew.alloc (.cells #[.int .i64 0, .int .i64 0, .int .i64 0, .int .i64 0] 111)) ((Below.refl _ _).drew.alloc (Nat.le_refl _) _)
      obtain ⟨go2, gc2, w5, T5, hrun, hR5, hs5⟩ := run_append_row (P := Tryz.prog) 107 107 111 j0 _ 4 32 Tryz.underlying107 hj hj0 hj1 hj2 rfl (by decide) _ _ _ ((hI1.its k x hx).2 (Nat.le_refl _)).1 ⟨wr.heap.size, 0, none⟩ 1 1 zero4 rfl (cells_new wr.drew zero4 111) (by simp [zero4, Value.oneCell']) (by decide) (by unfold maxLen; omega) (by omega)
      have hB5 := hI1.blk.step hs5 (by simp)
      have hG5 := hI1.grp.step hs5 (by simp)
      have p6 := hB5.cell (j := 6) rfl
      simp only [List.getElem_toArray, List.getElem_cons_succ, List.getElem_cons_zero] at p6
      have p2 := hG5.cell (groupCells_at q.groups vj vd k x hx).2.2.1
      have r2 := hG5.frozen (k * 4 + 2)
      have hfin := hI1.round hx hs5 hR5
      have b1 := hI.blk.lt
      have b2 := hI.grp.lt
      clear hL hI1 hR5 hs5 hB5 hG5 hit hal
      go_wp2_with fail
      go_region_law (refine step_append_known rfl _ _ 107 rfl _ _ _ rfl rfl hrun ?_)
      all_goals
        go_wp2
        refine ⟨⟨k + 1, T5, _, by omega, by simp, hfin⟩, by simp [intOf]; omega⟩
    · have hk2 : k = q.groups.length := by omega
      have c8 := hI.blk.cell (j := 8) rfl
      have e8 := hI.blk.frozen 8
      simp only [List.getElem_toArray, List.getElem_cons_succ, List.getElem_cons_zero] at c8
      clear hL
      go_wp2
      go_ret2
      subst hk2
      obtain ⟨d1, d2⟩ := hI.done (by omega) hfew hfl
      refine ⟨?_, T', d1, ?_⟩
      · rw [e0]; rfl
      · unfold enqQ
        rw [e0]
        exact d2

end Go.Proofs.YtockkceclkcgbaaGreatDoor

/- Small words for the queues: names in a list, keys of a map, a step of the script, pointers; a map keeps its data while other blocks are written. -/
namespace Go.Proofs.YtockkceclkcgbaaGreatDoor
open Go.RowKit Go.Maps

def keyL (s : ByteArray) : Lit := .string s.data.toList
theorem keyL_inj {a b : ByteArray} (h : keyL a = keyL b) : a = b := by
  cases a; cases b
  simp [keyL] at h
  rw [h]
theorem keyL_key (s : ByteArray) : WideAt.IsKeyLit (keyL s) := trivial

def memB (s : ByteArray) (names : List ByteArray) : Bool := names.any (fun x => decide (x = s))
theorem memB_iff {s : ByteArray} {names : List ByteArray} : memB s names = true ↔ s ∈ names := by simp [memB]
theorem memB_not {s : ByteArray} {names : List ByteArray} : memB s names = false ↔ s ∉ names := by rw [← memB_iff]; simp
theorem snoc_ind {α : Type} {p : List α → Prop} (h0 : p []) (h1 : ∀ l x, p l → p (l ++ [x])) (l : List α) : p l := by
  have : p l.reverse.reverse := by
    induction l.reverse with
    | nil => exact h0
    | cons x r ih => rw [List.reverse_cons]; exact h1 _ _ ih
  rwa [List.reverse_reverse] at this
theorem law9 : Keyed Tryz.prog 9 := string_keyed Tryz.underlying9
def i64 (n : Int) : Prop := -9223372036854775808 ≤ n ∧ n ≤ 9223372036854775807
def ptrV (p : Nat) : Value := .pointer (some ⟨p, 0, none⟩)
/-- the cells of a step of the script -/
abbrev opCells (kind qu : Int) (nm bd : ByteArray) (n tr ms : Int) (yes : Bool) : Array Value := #[.int .i64 kind, .int .i64 qu, .string nm, .string bd, .int .i64 n, .int .i64 tr, .int .i64 ms, .bool yes]

theorem ownsMap_step {S : Tag → Prop} {w w' : World} {T T' : Nat → Tag} {P : Program} {k : TypeId} {R : Value → Option (DataW Unit × List MemPlace)} {b n : Nat} {D : DataW Unit} (h : w.ownsMap P k R b n D) (hs : Step S w T w' T') (ht : ¬ S (T b)) : w'.ownsMap P k R b n D := by
  have hlt := h.lt
  obtain ⟨es, clock, hb, F, hs2, hD⟩ := h
  exact ⟨es, clock, (hs.block b hlt ht).trans hb, F, hs2, hD⟩
theorem ownsMap_tight {w : World} {P : Program} {k : TypeId} {R : Value → Option (DataW Unit × List MemPlace)} {b n : Nat} {D : DataW Unit} (h : w.ownsMap P k R b n D) : w.ownsMap P k R b (Maps.size D) D := by
  obtain ⟨es, clock, hb, F, hs2, rfl⟩ := h
  refine ⟨es, clock, hb, F, ?_, rfl⟩
  simp [Maps.size, length_sorted]

end Go.Proofs.YtockkceclkcgbaaGreatDoor

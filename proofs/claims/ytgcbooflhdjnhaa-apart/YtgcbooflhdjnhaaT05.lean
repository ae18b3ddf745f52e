/- Contracts of the small functions of packages quay, quayref and quaylaw that look at numbers alone: between, isName, isConfig, Good, pick, Log. -/
import Derived.Test.YtgcbooflhdjnhaaRows
import Derived.Test.YtgcbooflhdjnhaaT04
namespace Go.Proofs.Ytgcbooflhdjnhaa
open Go.RowKit

/-- A configuration: lease, deliveries, segment, kept. -/
structure Conf where
  l : Int
  d : Int
  s : Int
  k : Int

abbrev Conf.cells (c : Conf) : Array Value := #[.int .i64 c.l, .int .i64 c.d, .int .i64 c.s, .int .i64 c.k]

def btw (n a b : Int) : Bool := decide (a ≤ n ∧ n ≤ b)
def goodC (c : Conf) : Bool := btw c.l 1 60000 && (btw c.d 1 10 && (btw c.s 1 16 && btw c.k c.s 100))

theorem ret_boolO {p q : Bool} (h : p = q) : Ending.returned (.bool p) = .returned (.bool q) := by rw [h]
theorem btw_true {n a b : Int} (h : btw n a b = true) : a ≤ n ∧ n ≤ b := by simpa [btw] using h
theorem btw_false {n a b : Int} (h : btw n a b = false) : ¬ (a ≤ n ∧ n ≤ b) := by simpa [btw] using h

set_option maxHeartbeats 400000 in
theorem between_any (n a b : Int) (w : World) :
    Calls Try.prog 84 #[.int .i64 n, .int .i64 a, .int .i64 b] w fun e w' => e = .returned (.bool (btw n a b)) ∧ Below w.heap.size w w' := by
  by_cases h1 : a ≤ n
  · by_cases h2 : n ≤ b
    all_goals
      go_enter Try.func84, Try.ntmps84
      go_wp2
      go_ret
      exact ⟨by simp [btw]; omega, Below.refl _ _⟩
  · go_enter Try.func84, Try.ntmps84
    go_wp2
    go_ret
    exact ⟨by simp [btw]; omega, Below.refl _ _⟩

set_option maxHeartbeats 400000 in
theorem isName_any (s : ByteArray) (w : World) :
    Calls Try.prog 83 #[.string s] w fun e w' => e = .returned (.bool (btw s.size 1 16)) ∧ Below w.heap.size w w' := by
  go_enter Try.func83, Try.ntmps83
  go_wp2_with fail
  refine (between_any _ _ _ _).mono ?_
  rintro e w1 ⟨rfl, hb⟩
  go_wp2
  go_ret
  exact ⟨rfl, hb⟩

set_option maxHeartbeats 1000000 in
theorem isConfig_any (c : Conf) (w : World) :
    Calls Try.prog 67 #[.agg c.cells] w fun e w' => e = .returned (.bool (goodC c)) ∧ Below w.heap.size w w' := by
  obtain ⟨l, d, s, k⟩ := c
  have hstep : ∀ {w1 w2 : World} {b : Nat}, Below w1.heap.size w1 w2 → b < w1.heap.size → b < w2.heap.size ∧ ∀ j, w2.cell? ⟨b, j, none⟩ = w1.cell? ⟨b, j, none⟩ := fun h hb => ⟨Nat.lt_of_lt_of_le hb h.size, fun j => h.cell (p := ⟨_, j, none⟩) hb⟩
  have hfin : ∀ {w1 : World} {o : Obj}, Below (w.alloc o).heap.size (w.alloc o) w1 → Below w.heap.size w w1 := fun h => ((Below.refl _ _).alloc (Nat.le_refl _) _).trans (h.mono (by simp))
  go_enter Try.func67, Try.ntmps67
  go_wp2_with fail
  refine (between_any _ _ _ _).mono ?_
  rintro e w1 ⟨rfl, hb1⟩
  have q1 : ∀ j, w1.cell? ⟨w.heap.size, j, none⟩ = _ := (hstep hb1 (b := w.heap.size) (by simp)).2
  have f1 := hfin hb1
  have hz1 := hb1.size
  cases h1 : btw l 1 60000
  · go_wp2
    go_ret
    exact ⟨by simp [goodC, h1], f1⟩
  go_wp2_with fail
  refine (between_any _ _ _ _).mono ?_
  rintro e w2 ⟨rfl, hb2⟩
  have q2 : ∀ j, w2.cell? ⟨w.heap.size, j, none⟩ = _ := (hstep hb2 (b := w.heap.size) (by simp at hz1; omega)).2
  have f2 := f1.trans (hb2.mono f1.size)
  cases h2 : btw d 1 10
  · go_wp2
    go_ret
    exact ⟨by simp [goodC, h1, h2], f2⟩
  have hz2 := hb2.size
  go_wp2_with fail
  refine (between_any _ _ _ _).mono ?_
  rintro e w3 ⟨rfl, hb3⟩
  have q3 : ∀ j, w3.cell? ⟨w.heap.size, j, none⟩ = _ := (hstep hb3 (b := w.heap.size) (by simp at hz1; omega)).2
  have f3 := f2.trans (hb3.mono f2.size)
  cases h3 : btw s 1 16
  · go_wp2
    go_ret
    exact ⟨by simp [goodC, h1, h2, h3], f3⟩
  go_wp2_with fail
  refine (between_any _ _ _ _).mono ?_
  rintro e w4 ⟨rfl, hb4⟩
  go_wp2
  go_ret
  exact ⟨by simp [goodC, h1, h2, h3], f3.trans (hb4.mono f3.size)⟩

set_option maxHeartbeats 1000000 in
theorem good_any (c : Conf) (w : World) :
    Calls Try.prog 39 #[.agg c.cells] w fun e w' => e = .returned (.bool (goodC c)) ∧ Below w.heap.size w w' := by
  obtain ⟨l, d, s, k⟩ := c
  by_cases h1 : 1 ≤ l
  · by_cases h2 : l ≤ 60000
    · by_cases h3 : 1 ≤ d
      · by_cases h4 : d ≤ 10
        · by_cases h5 : 1 ≤ s
          · by_cases h6 : s ≤ 16
            · by_cases h7 : s ≤ k
              · by_cases h8 : k ≤ 100
                all_goals
                  go_enter Try.func39, Try.ntmps39
                  go_wp2
                  go_ret
                  exact ⟨by simp [goodC, btw]; omega, (Below.refl _ _).alloc (Nat.le_refl _) _⟩
              · go_enter Try.func39, Try.ntmps39
                go_wp2
                go_ret
                exact ⟨by simp [goodC, btw]; omega, (Below.refl _ _).alloc (Nat.le_refl _) _⟩
            · go_enter Try.func39, Try.ntmps39
              go_wp2
              go_ret
              exact ⟨by simp [goodC, btw]; omega, (Below.refl _ _).alloc (Nat.le_refl _) _⟩
          · go_enter Try.func39, Try.ntmps39
            go_wp2
            go_ret
            exact ⟨by simp [goodC, btw]; omega, (Below.refl _ _).alloc (Nat.le_refl _) _⟩
        · go_enter Try.func39, Try.ntmps39
          go_wp2
          go_ret
          exact ⟨by simp [goodC, btw]; omega, (Below.refl _ _).alloc (Nat.le_refl _) _⟩
      · go_enter Try.func39, Try.ntmps39
        go_wp2
        go_ret
        exact ⟨by simp [goodC, btw]; omega, (Below.refl _ _).alloc (Nat.le_refl _) _⟩
    · go_enter Try.func39, Try.ntmps39
      go_wp2
      go_ret
      exact ⟨by simp [goodC, btw]; omega, (Below.refl _ _).alloc (Nat.le_refl _) _⟩
  · go_enter Try.func39, Try.ntmps39
    go_wp2
    go_ret
    exact ⟨by simp [goodC, btw]; omega, (Below.refl _ _).alloc (Nat.le_refl _) _⟩

/-- which of n things the raw number speaks of -/
def pickQ (c n : Int) : Int := if c < 0 then -((c + 1).tmod n) else c.tmod n

theorem pickQ_range (c n : Int) (hn : 1 ≤ n) : 0 ≤ pickQ c n ∧ pickQ c n < n := by
  unfold pickQ
  split
  · have h1 := Int.tmod_nonneg (a := -(c + 1)) n (by omega)
    have h2 := Int.tmod_lt_of_pos (-(c + 1)) (b := n) (by omega)
    rw [Int.neg_tmod] at h1 h2
    omega
  · have h1 := Int.tmod_nonneg (a := c) n (by omega)
    have h2 := Int.tmod_lt_of_pos c (b := n) (by omega)
    omega

set_option maxHeartbeats 400000 in
theorem pickq_any (c n : Int) (w : World) (h0 : -9223372036854775808 ≤ c) (h1 : c ≤ 9223372036854775807) (hn : 1 ≤ n) (hn1 : n ≤ 9223372036854775807) :
    Calls Try.prog 37 #[.int .i64 c, .int .i64 n] w fun e w' => e = .returned (.int .i64 (pickQ c n)) ∧ Below w.heap.size w w' := by
  by_cases hc : c < 0
  · go_enter Try.func37, Try.ntmps37
    go_wp2
    go_ret
    exact ⟨by simp [pickQ, hc], Below.refl _ _⟩
  · go_enter Try.func37, Try.ntmps37
    go_wp2
    go_ret
    refine ⟨?_, Below.refl _ _⟩
    rw [pickQ, if_neg (by omega), Int.tmod_eq_emod_of_nonneg hc]; rfl

set_option maxHeartbeats 400000 in
theorem log_any (v : Value) (w : World) :
    Calls Try.prog 40 #[v] w fun e w' => e = .returned (.string ⟨#[]⟩) ∧ w' = w := by
  go_enter Try.func40, Try.ntmps40
  go_wp2
  go_ret
  exact ⟨rfl, rfl⟩

end Go.Proofs.Ytgcbooflhdjnhaa

/- Small words for the queues: names in a list, keys of a map, a step of the script, pointers; a map keeps its data while other blocks are written. -/
namespace Go.Proofs.Ytgcbooflhdjnhaa
open Go.RowKit Go.Maps

def keyL (s : ByteArray) : Lit := .string s.data.toList
theorem keyL_inj {a b : ByteArray} (h : keyL a = keyL b) : a = b := by
  cases a; cases b
  simp [keyL] at h
  rw [h]
theorem keyL_key (s : ByteArray) : WideAt.IsKeyLit (keyL s) := trivial

def memB (s : ByteArray) (names : List ByteArray) : Bool := names.any (fun x => decide (x = s))
theorem memB_iff {s : ByteArray} {names : List ByteArray} : memB s names = true ↔ s ∈ names := by simp [memB]
theorem memB_not {s : ByteArray} {names : List ByteArray} : memB s names = false ↔ s ∉ names := by rw [← memB_iff]; simp
theorem snoc_ind {α : Type} {p : List α → Prop} (h0 : p []) (h1 : ∀ l x, p l → p (l ++ [x])) (l : List α) : p l := by
  have : p l.reverse.reverse := by
    induction l.reverse with
    | nil => exact h0
    | cons x r ih => rw [List.reverse_cons]; exact h1 _ _ ih
  rwa [List.reverse_reverse] at this
theorem law9 : Keyed Try.prog 9 := string_keyed Try.underlying9
def i64 (n : Int) : Prop := -9223372036854775808 ≤ n ∧ n ≤ 9223372036854775807
def ptrV (p : Nat) : Value := .pointer (some ⟨p, 0, none⟩)
/-- the cells of a step of the script -/
abbrev opCells (kind qu : Int) (nm bd : ByteArray) (n tr ms : Int) (yes : Bool) : Array Value := #[.int .i64 kind, .int .i64 qu, .string nm, .string bd, .int .i64 n, .int .i64 tr, .int .i64 ms, .bool yes]

theorem ownsMap_step {S : Tag → Prop} {w w' : World} {T T' : Nat → Tag} {P : Program} {k : TypeId} {R : Value → Option (DataW Unit × List MemPlace)} {b n : Nat} {D : DataW Unit} (h : w.ownsMap P k R b n D) (hs : Step S w T w' T') (ht : ¬ S (T b)) : w'.ownsMap P k R b n D := by
  have hlt := h.lt
  obtain ⟨es, clock, hb, F, hs2, hD⟩ := h
  exact ⟨es, clock, (hs.block b hlt ht).trans hb, F, hs2, hD⟩
theorem ownsMap_tight {w : World} {P : Program} {k : TypeId} {R : Value → Option (DataW Unit × List MemPlace)} {b n : Nat} {D : DataW Unit} (h : w.ownsMap P k R b n D) : w.ownsMap P k R b (Maps.size D) D := by
  obtain ⟨es, clock, hb, F, hs2, rfl⟩ := h
  refine ⟨es, clock, hb, F, ?_, rfl⟩
  simp [Maps.size, length_sorted]

end Go.Proofs.Ytgcbooflhdjnhaa

/- The document's queue as it lies in memory: its cells, its bodies, its groups with their items; contracts of at and Enqueue. -/
namespace Go.Proofs.Ytgcbooflhdjnhaa
open Go.RowKit

/-- A group of the document's queue: its name, its start, the cells of its items (four each), the dead ones' offsets. -/
structure RG where
  name : ByteArray
  start : Int
  items : List Value
  dead : List Value

/-- The document's queue. -/
structure RQ where
  c : Conf
  bodies : List Value
  floor : Int
  groups : List RG
  time : Int
  changes : Int

/-- the cells of the groups, their items' and their dead ones' lists given -/
def groupCells : List RG → (Nat → Value) → (Nat → Value) → List Value
  | [], _, _ => []
  | g :: r, vi, vd => .string g.name :: .int .i64 g.start :: vi 0 :: vd 0 :: groupCells r (fun k => vi (k + 1)) (fun k => vd (k + 1))

theorem groupCells_length : ∀ (l : List RG) (vi vd : Nat → Value), (groupCells l vi vd).length = l.length * 4
  | [], _, _ => rfl
  | g :: r, vi, vd => by simp [groupCells, groupCells_length r]; omega
theorem groupCells_at : ∀ (l : List RG) (vi vd : Nat → Value) (k : Nat) (g : RG), l[k]? = some g →
    (groupCells l vi vd)[k * 4]? = some (.string g.name) ∧ (groupCells l vi vd)[k * 4 + 1]? = some (.int .i64 g.start) ∧ (groupCells l vi vd)[k * 4 + 2]? = some (vi k) ∧ (groupCells l vi vd)[k * 4 + 3]? = some (vd k)
  | [], _, _, _, _, h => by simp at h
  | g :: r, vi, vd, 0, x, h => by simp at h; subst h; simp [groupCells]
  | g :: r, vi, vd, k + 1, x, h => by
    have h2 := groupCells_at r (fun k => vi (k + 1)) (fun k => vd (k + 1)) k x (by simpa using h)
    have e : ∀ j, (k + 1) * 4 + j = (k * 4 + j) + 4 := fun j => by omega
    refine ⟨?_, ?_, ?_, ?_⟩
    · rw [show (k + 1) * 4 = k * 4 + 4 by omega]; simpa [groupCells] using h2.1
    · rw [e]; simpa [groupCells] using h2.2.1
    · rw [e]; simpa [groupCells] using h2.2.2.1
    · rw [e]; simpa [groupCells] using h2.2.2.2
theorem groupCells_snoc : ∀ (l : List RG) (vi vd : Nat → Value) (g : RG), groupCells (l ++ [g]) vi vd = groupCells l vi vd ++ [.string g.name, .int .i64 g.start, vi l.length, vd l.length]
  | [], _, _, _ => rfl
  | x :: r, vi, vd, g => by simp [groupCells, groupCells_snoc r]
theorem groupCells_congr : ∀ (l l' : List RG) (vi vd vi' vd' : Nat → Value), l'.map (fun g => (g.name, g.start)) = l.map (fun g => (g.name, g.start)) → (∀ k, k < l.length → vi' k = vi k) → (∀ k, k < l.length → vd' k = vd k) → groupCells l' vi' vd' = groupCells l vi vd
  | [], [], _, _, _, _, _, _, _ => rfl
  | [], _ :: _, _, _, _, _, h, _, _ => by simp at h
  | _ :: _, [], _, _, _, _, h, _, _ => by simp at h
  | g :: r, g' :: r', vi, vd, vi', vd', h, h1, h2 => by
    simp at h
    simp only [groupCells]
    rw [h.1.1, h.1.2, h1 0 (by simp), h2 0 (by simp), groupCells_congr r r' (fun k => vi (k + 1)) (fun k => vd (k + 1)) _ _ (by simpa using h.2) (fun k hk => h1 (k + 1) (by simp; omega)) (fun k hk => h2 (k + 1) (by simp; omega))]
/-- one group's list of items is another value now -/
theorem groupCells_items : ∀ (l : List RG) (vi vd : Nat → Value) (k : Nat) (v : Value), k < l.length → (groupCells l vi vd).set (k * 4 + 2) v = groupCells l (fun j => if j = k then v else vi j) vd
  | [], _, _, _, _, h => by simp at h
  | g :: r, vi, vd, 0, v, _ => by simp [groupCells]
  | g :: r, vi, vd, k + 1, v, h => by
    have h2 := groupCells_items r (fun k => vi (k + 1)) (fun k => vd (k + 1)) k v (by simpa using h)
    rw [show (k + 1) * 4 + 2 = (k * 4 + 2) + 4 by omega]
    simp [groupCells, h2]

/-- The lists of one group: its items' row and its dead ones' row, each with a tag of its own. -/
def GrpAt (w : World) (T : Nat → Tag) (i k : Nat) (g : RG) (n : Nat) (vi vd : Value) : Prop :=
  Row w T (.y i 3 k) 110 4 vi n g.items ∧ Row w T (.y i 4 k) 3 1 vd g.dead.length g.dead

/-- The document's queue of number i, in block b. -/
structure YQ (w : World) (T : Nat → Tag) (i b : Nat) (q : RQ) : Prop where
  small : q.bodies.length ≤ 400
  few : q.groups.length ≤ 6
  fl : 0 ≤ q.floor ∧ q.floor ≤ q.bodies.length
  mem : ∃ vB vG vi vd, Blk w T (.y i 0 0) b #[.int .i64 q.c.l, .int .i64 q.c.d, .int .i64 q.c.s, .int .i64 q.c.k, vB, .int .i64 q.floor, vG, .int .i64 q.time, .int .i64 q.changes] 97 ∧
    Row w T (.y i 1 0) 9 1 vB q.bodies.length q.bodies ∧ Row w T (.y i 2 0) 108 4 vG q.groups.length (groupCells q.groups vi vd) ∧
    ∀ k g, q.groups[k]? = some g → GrpAt w T i k g q.bodies.length (vi k) (vd k)

theorem GrpAt.step {S : Tag → Prop} {w w' : World} {T T' : Nat → Tag} {i k : Nat} {g : RG} {n : Nat} {vi vd : Value} (h : GrpAt w T i k g n vi vd) (hs : Step S w T w' T') (h3 : ¬ S (.y i 3 k)) (h4 : ¬ S (.y i 4 k)) : GrpAt w' T' i k g n vi vd :=
  ⟨h.1.step hs h3, h.2.step hs h4⟩
theorem YQ.step {S : Tag → Prop} {w w' : World} {T T' : Nat → Tag} {i b : Nat} {q : RQ} (h : YQ w T i b q) (hs : Step S w T w' T') (hS : ∀ r k, ¬ S (.y i r k)) : YQ w' T' i b q := by
  obtain ⟨h1, h2, h3, vB, vG, vi, vd, hB, hR, hG, hI⟩ := h
  exact ⟨h1, h2, h3, vB, vG, vi, vd, hB.step hs (hS _ _), hR.step hs (hS _ _), hG.step hs (hS _ _), fun k g hk => (hI k g hk).step hs (hS _ _) (hS _ _)⟩

/-- the place of a name; -1: there is none -/
def placeFrom (s : ByteArray) : List ByteArray → Nat → Int
  | [], _ => -1
  | x :: r, k => bif decide (x = s) then k else placeFrom s r (k + 1)
def placeOf (s : ByteArray) (names : List ByteArray) : Int := placeFrom s names 0
theorem placeFrom_neg (s : ByteArray) : ∀ (l : List ByteArray) (k : Nat), (0 ≤ placeFrom s l k ↔ s ∈ l)
  | [], k => by simp [placeFrom]
  | x :: r, k => by
    unfold placeFrom
    by_cases h : x = s
    · subst h; simp
    · have h' : ¬ s = x := fun e => h e.symm
      simp [h, h', placeFrom_neg s r (k + 1)]

theorem strEq (a b : ByteArray) : (a.toList == b.toList) = decide (a = b) := by
  rw [ByteArray.toList_eq, ByteArray.toList_eq, Bool.eq_iff_iff]
  cases a; cases b
  simp

theorem drop_names {l : List RG} {k : Nat} {g : RG} (h : l[k]? = some g) : (l.map (·.name)).drop k = g.name :: (l.map (·.name)).drop (k + 1) := by
  have hk : k < (l.map (·.name)).length := by simp; exact (List.getElem?_eq_some_iff.1 h).1
  rw [List.drop_eq_getElem_cons hk]
  congr 1
  have := (List.getElem?_eq_some_iff.1 h)
  obtain ⟨h1, h2⟩ := this
  simp [h2]

set_option maxRecDepth 100000 in
set_option maxHeartbeats 1000000 in
theorem yat_any (i b : Nat) (q : RQ) (s : ByteArray) (w : World) (T : Nat → Tag) (hy : YQ w T i b q) :
    Calls Try.prog 75 #[.pointer (some ⟨b, 0, none⟩), .string s] w fun e w' => e = .returned (.int .i64 (placeOf s (q.groups.map (·.name)))) ∧ w' = w := by
  obtain ⟨h1, h2, _, vB, vG, vi, vd, hB, hR, hG, hI⟩ := hy
  obtain ⟨ao, cap, rfl⟩ := row_form hG
  have c6 := hB.cell (j := 6) rfl
  simp only [List.getElem_toArray, List.getElem_cons_succ, List.getElem_cons_zero] at c6
  go_enter Try.func75, Try.ntmps75
  go_wp2
  go_loopw [5] (fun x wr => ∃ k : Nat, k ≤ q.groups.length ∧ x = .int .i64 k ∧ wr = w ∧ Hid (placeOf s (q.groups.map (·.name)) = placeFrom s ((q.groups.map (·.name)).drop k) k)) (fun x _ => q.groups.length - (intOf x).toNat)
  case atStart => exact ⟨0, Nat.zero_le _, rfl, rfl, hide rfl⟩
  case round =>
    obtain ⟨k, hk, rfl, rfl, hp⟩ := hrel
    by_cases hlt : k < q.groups.length
    · obtain ⟨g, hg⟩ : ∃ g, q.groups[k]? = some g := ⟨_, List.getElem?_eq_getElem hlt⟩
      obtain ⟨gb, gc, e⟩ := row_some hG (by omega)
      cases e
      have d0 := hG.cell (groupCells_at q.groups vi vd k g hg).1
      have e0 := drop_names hg
      rw [e0] at hp
      clear hB hR hI hG e0
      by_cases hs : g.name = s
      · have hq : (g.name.toList == s.toList) = true := by rw [strEq]; simp [hs]
        go_wp2
        go_ret
        refine ⟨?_, rfl⟩
        rw [hp.out]
        simp [placeFrom, hs]
      · have hq : (g.name.toList == s.toList) = false := by rw [strEq]; simp [hs]
        go_wp2
        refine ⟨⟨k + 1, by omega, by simp, trivial, ?_⟩, by simp [intOf]; omega⟩
        show _ = _
        rw [hp.out]
        simp [placeFrom, hs]
    · have hk2 : k = q.groups.length := by omega
      go_wp2
      go_ret
      refine ⟨?_, rfl⟩
      rw [hp.out, List.drop_eq_nil_of_le (by simp; omega)]
      rfl

end Go.Proofs.Ytgcbooflhdjnhaa

/- The contract of the document's Done: a new list of the ranges of what a group is done with. -/
import Derived.Test.YtockkceclkcgbaaGreatDoorB03
namespace Go.Proofs.YtockkceclkcgbaaGreatDoor
open Go.RowKit

/-- was the item ahead done? -/
def prevDone (l : List It) (k : Nat) : Bool := match k with
  | 0 => false
  | j + 1 => match l[j]? with
    | none => false
    | some y => decide (0 < y.done)
/-- the ranges of what is done among the first k items, as the document's answer makes them -/
def doneStep (l : List It) (k : Nat) (acc : List (Int × Int)) : List (Int × Int) := match l[k]? with
  | none => acc
  | some x => bif decide (x.done = 0) then acc else bif prevDone l k then acc.dropLast ++ [((acc.getLast?.getD (0, 0)).1, (k : Int))] else acc ++ [((k : Int), (k : Int))]
def doneTo (l : List It) : Nat → List (Int × Int)
  | 0 => []
  | k + 1 => doneStep l k (doneTo l k)
def pairVals : List (Int × Int) → List Value
  | [] => []
  | r :: l => .int .i64 r.1 :: .int .i64 r.2 :: pairVals l
theorem pairVals_length : ∀ l : List (Int × Int), (pairVals l).length = l.length * 2
  | [] => rfl
  | r :: l => by simp [pairVals, pairVals_length l]; omega
theorem pairVals_append : ∀ a b : List (Int × Int), pairVals (a ++ b) = pairVals a ++ pairVals b
  | [], _ => rfl
  | r :: a, b => by simp [pairVals, pairVals_append a b]
theorem pairVals_last (a : List (Int × Int)) (r : Int × Int) (v : Int) : (pairVals (a ++ [r])).set (a.length * 2 + 1) (.int .i64 v) = pairVals (a ++ [(r.1, v)]) := by
  rw [pairVals_append, pairVals_append, List.set_append_right _ _ (by rw [pairVals_length]; omega)]
  congr 1
  rw [pairVals_length]
  simp [pairVals]

theorem info31 : (Tryz.prog.info? 69).map (fun i => (i.zero, i.size, i.bytes)) = some (some (.agg #[.int .i64 0, .int .i64 0]), 2, 16) := by kernel_rfl
theorem cells_new5 (w : World) (xs : List Value) (t : TypeId) : ∀ j u, xs[j]? = some u → (w.alloc (.cells xs.toArray t)).cell? ((⟨w.heap.size, 0, none⟩ : Addr).add j) = some u := by
  intro j u hj
  have h := heap_alloc_new w (.cells xs.toArray t)
  rw [Addr.add_lit, Nat.zero_add]
  unfold World.cell?
  simp only [h]
  simpa using hj

/-- a cell of a row of the call's own, written -/
theorem ownsRow_set {w : World} {base : Nat} {e : TypeId} {size g : Nat} {n cap : Nat} {xs : List Value} (h : w.ownsRow base e size (.slice (some ⟨g, 0, none⟩) n cap) n xs) (j : Nat) (u : Value) :
    (w.setCell ⟨g, j, none⟩ u).ownsRow base e size (.slice (some ⟨g, 0, none⟩) n cap) n (xs.set j u) := by
  rcases h.2 with ⟨h1, _⟩ | ⟨g', cap', cur, h1, h2, hg, h3, h4, h5, h6⟩
  · cases h1
  · cases h1
    refine ⟨by rw [List.length_set]; exact h.1, .inr ⟨g, cap, cur.setIfInBounds j u, rfl, h2, heap_setCell_same w g j cur e u hg, h3, h4, by simp [h5], ?_⟩⟩
    rw [Array.toList_setIfInBounds, List.take_set, h6]
theorem ownsRow_cell {w : World} {base : Nat} {e : TypeId} {size g : Nat} {n cap : Nat} {xs : List Value} (h : w.ownsRow base e size (.slice (some ⟨g, 0, none⟩) n cap) n xs) {j : Nat} {u : Value} (hj : xs[j]? = some u) : w.cell? ⟨g, j, none⟩ = some u := by
  have := h.cells (g := g) rfl j u hj
  rwa [Addr.add_lit, Nat.zero_add] at this
theorem ownsRow_frozen {w : World} {base : Nat} {e : TypeId} {size g : Nat} {n cap : Nat} {xs : List Value} (h : w.ownsRow base e size (.slice (some ⟨g, 0, none⟩) n cap) n xs) (j : Nat) : w.frozen? ⟨g, j, none⟩ = false := by
  rcases h.2 with ⟨h1, _⟩ | ⟨g', cap', cur, h1, h2, hg, h3, h4, h5, h6⟩
  · cases h1
  · cases h1
    simp [World.frozen?, hg]
theorem ownsRow_some {w : World} {base : Nat} {e : TypeId} {size n : Nat} {v : Value} {xs : List Value} (h : w.ownsRow base e size v n xs) (hn : 0 < n) : ∃ g cap, v = .slice (some ⟨g, 0, none⟩) n cap ∧ base ≤ g ∧ g < w.heap.size := by
  rcases h.2 with ⟨rfl, rfl⟩ | ⟨g, cap, cur, rfl, hb, hg, _⟩
  · omega
  · exact ⟨_, _, rfl, hb, (Array.getElem?_eq_some_iff.1 hg).1⟩
theorem ownsRow_slice {w : World} {base : Nat} {e : TypeId} {size n : Nat} {v : Value} {xs : List Value} (h : w.ownsRow base e size v n xs) : ∃ ao cap, v = .slice ao n cap := by
  rcases h.2 with ⟨rfl, rfl⟩ | ⟨g, cap, cur, rfl, hb, hg, _⟩
  · exact ⟨_, _, rfl⟩
  · exact ⟨_, _, rfl⟩
/-- a new list, under whatever tag -/
theorem own_row {w w' : World} {e : TypeId} {size n : Nat} {v : Value} {xs : List Value} (hb : Below w.heap.size w w') (h : w'.ownsRow w.heap.size e size v n xs) (T : Nat → Tag) (t : Tag) : ∃ T', Step (fun _ => False) w T w' T' ∧ Row w' T' t e size v n xs := by
  rcases h.2 with ⟨rfl, rfl⟩ | ⟨g, cap, cur, rfl, hbg, hg, hr⟩
  · exact ⟨T, step_below _ T hb, ⟨⟨h.1, .inl ⟨rfl, rfl⟩⟩, by simp [Value.ownBlock]⟩⟩
  · refine ⟨retag T g t, step_kept (kept_of_below (fun _ => False) hb) (fun _ _ e => e.elim) (fun k hk => retag_other T g t (by omega)), ⟨h.1, .inr ⟨g, cap, cur, rfl, Nat.zero_le _, hg, hr⟩⟩, fun k hk => ?_⟩
    simp [Value.ownBlock] at hk
    subst hk
    exact retag_same _ _ _

theorem doneTo_skip {l : List It} {k : Nat} {x : It} (hx : l[k]? = some x) (h : x.done = 0) : doneTo l (k + 1) = doneTo l k := by
  show doneStep l k _ = _
  simp [doneStep, hx, h]
theorem doneTo_new {l : List It} {k : Nat} {x : It} (hx : l[k]? = some x) (h : x.done ≠ 0) (hp : prevDone l k = false) : doneTo l (k + 1) = doneTo l k ++ [((k : Int), (k : Int))] := by
  show doneStep l k _ = _
  simp [doneStep, hx, h, hp]
theorem doneTo_ne {l : List It} {k : Nat} (hp : prevDone l k = true) : doneTo l k ≠ [] := by
  cases k with
  | zero => simp [prevDone] at hp
  | succ j =>
    simp only [prevDone] at hp
    cases hy : l[j]? with
    | none => rw [hy] at hp; cases hp
    | some y =>
      rw [hy] at hp
      have h0 : 0 < y.done := by simpa using hp
      have h1 : ¬ y.done = 0 := by omega
      show doneStep l j _ ≠ _
      cases h2 : prevDone l j <;> simp [doneStep, hy, h1, h2]
theorem doneTo_more {l : List It} {k : Nat} {x : It} (hx : l[k]? = some x) (h : x.done ≠ 0) (hp : prevDone l k = true) : ∃ a r, doneTo l k = a ++ [r] ∧ doneTo l (k + 1) = a ++ [(r.1, (k : Int))] := by
  obtain ⟨a, r, e⟩ : ∃ a r, doneTo l k = a ++ [r] := ⟨_, _, (List.dropLast_concat_getLast (doneTo_ne hp)).symm⟩
  refine ⟨a, r, e, ?_⟩
  show doneStep l k _ = _
  rw [e]
  simp [doneStep, hx, h, hp]
theorem doneTo_len (l : List It) : ∀ k, (doneTo l k).length ≤ k
  | 0 => Nat.le_refl _
  | k + 1 => by
    have ih := doneTo_len l k
    show (doneStep l k _).length ≤ _
    unfold doneStep
    cases l[k]? with
    | none => simp; omega
    | some x =>
      simp only
      cases decide (x.done = 0)
      · cases hp : prevDone l k
        · simp; omega
        · simp
          have := List.length_pos_iff.2 (doneTo_ne hp)
          omega
      · simp; omega

def doneE (m : MQ) (s : ByteArray) : Int := match m.at s with | none => 10 | some _ => 0
def doneL (m : MQ) (s : ByteArray) : List (Int × Int) := match m.at s with
  | none => []
  | some k => match m.groups[k]? with
    | none => []
    | some g => doneTo g.items g.items.length

set_option maxRecDepth 100000 in
set_option maxHeartbeats 2000000 in
theorem ydone_any (i b : Nat) (m : MQ) (s : ByteArray) (w : World) (T : Nat → Tag) (hy : YQ w T i b m.rq) (hok : m.Ok) :
    Calls Tryz.prog 47 #[.pointer (some ⟨b, 0, none⟩), .string s] w fun e w' => ∃ ao cap, e = .returned (.tuple #[.slice ao (doneL m s).length cap, .int .i64 (doneE m s)]) ∧ Below w.heap.size w w' ∧ w'.ownsRow w.heap.size 69 2 (.slice ao (doneL m s).length cap) (doneL m s).length (pairVals (doneL m s)) := by
  go_enter Tryz.func47, Tryz.ntmps47
  go_wp2_with fail
  refine (yat_any i b m.rq s w T hy).mono ?_
  rintro e w1 ⟨rfl, rfl⟩
  cases ha : m.at s with
  | none =>
    rw [place_none ha]
    go_wp2
    go_ret2
    have e1 : doneL m s = [] := by simp [doneL, ha]
    have e2 : doneE m s = 10 := by simp [doneE, ha]
    rw [e1, e2]
    exact ⟨none, 0, rfl, Below.refl _ _, World.ownsRow_nil _ _ _ _⟩
  | some k =>
    rw [place_some ha]
    obtain ⟨g, hg, hgn⟩ := at_group ha
    have hL : Hid (doneL m s = doneTo g.items g.items.length) := hide (by simp [doneL, ha, hg])
    have hE : Hid (doneE m s = 0) := hide (by simp [doneE, ha])
    clear hgn
    have hkl : k < m.groups.length := (List.getElem?_eq_some_iff.1 hg).1
    have hlen : g.items.length = m.bodies.length := hok.len g (List.mem_of_getElem? hg)
    obtain ⟨hsm, hfew, hfl, vB, vG, vi, vd, hB, hR, hG, hI⟩ := hy
    have hgl : m.rq.groups.length = m.groups.length := by simp [MQ.rq]
    have hbl : m.rq.bodies.length = m.bodies.length := by simp [MQ.rq]
    rw [hgl] at hG hfew
    rw [hbl] at hI hsm
    obtain ⟨gb, gc, rfl⟩ := row_some hG (by omega)
    have c6 := hB.cell (j := 6) rfl
    simp only [List.getElem_toArray, List.getElem_cons_succ, List.getElem_cons_zero] at c6
    have d2 := hG.cell (groupCells_at m.rq.groups vi vd k g.rg (rq_group hg)).2.2.1
    have hgi := (hI k g.rg (rq_group hg)).1
    obtain ⟨io, ic, hvi⟩ := row_form hgi
    rw [hvi] at d2 hgi
    obtain ⟨j0, hj, hj0, hj1, hj2⟩ := info_parts info31
    clear hB hR hG hI hvi hgl hbl hfl
    rw [← hlen] at d2 hgi
    have hN : g.items.length ≤ 400 := by omega
    go_wp2
    go_loopw [7, 9] (fun u7 u9 wr => ∃ (n : Nat) (ao : Option Addr) (cap : Nat), n ≤ g.items.length ∧ u9 = .int .i64 n ∧ u7 = .slice ao (doneTo g.items n).length cap ∧ Below w1.heap.size w1 wr ∧ wr.ownsRow w1.heap.size 69 2 (.slice ao (doneTo g.items n).length cap) (doneTo g.items n).length (pairVals (doneTo g.items n))) (fun _ u9 _ => g.items.length - (intOf u9).toNat)
    case atStart => exact ⟨0, none, 0, Nat.zero_le _, rfl, rfl, Below.refl _ _, World.ownsRow_nil _ _ _ _⟩
    case round =>
      obtain ⟨n, ao, cap, hn, rfl, rfl, hb, ho⟩ := hrel
      by_cases hlt : n < g.items.length
      · obtain ⟨x, hx⟩ : ∃ x, g.items[n]? = some x := ⟨_, List.getElem?_eq_getElem hlt⟩
        obtain ⟨gi, ic', e⟩ := row_some hgi (by omega)
        cases e
        have li := hgi.lt
        have t1 := (hb.cell (p := ⟨gi, n * 4 + 1, none⟩) li).trans (hgi.cell (itVals_at g.items n x hx).2.1)
        by_cases h0 : x.done = 0
        · have eL : Hid (doneTo g.items (n + 1) = doneTo g.items n) := hide (doneTo_skip hx h0)
          rw [h0] at t1
          go_wp2
          refine ⟨⟨n + 1, ao, cap, by omega, by simp, ?_, hb, ?_⟩, by simp [intOf]; omega⟩
          · rw [eL.out]
          · rw [eL.out]; exact ho
        · cases hp : prevDone g.items n
          · cases n with
            | zero =>
              have eL : Hid (doneTo g.items (0 + 1) = doneTo g.items 0 ++ [(((0 : Nat) : Int), ((0 : Nat) : Int))]) := hide (doneTo_new hx h0 hp)
              have hl400 := doneTo_len g.items 0
              have hba := hb.size
              go_wp2_with (first
                | (at_builtin; refine wpList_append_own _ rfl _ _ 74 rfl w1.heap.size 69 j0 _ 2 16 Tryz.underlying74 hj hj0 hj1 hj2 rfl (by decide) _ _ _ rfl (ho.alloc _) ⟨wr.heap.size, 0, none⟩ 1 1 [.int .i64 ((0 : Nat) : Int), .int .i64 ((0 : Nat) : Int)] rfl rfl (cells_new5 wr _ 69) (by simp [Value.oneCell']) (by unfold maxLen; omega) (by omega) (by simp; omega) ?_; intro v2 w2 ho2 hg2 hnl2; obtain ⟨ao2, cap2, e2⟩ := ownsRow_slice ho2; subst e2)
                | go_in)
              have hv := ho.lt
              refine ⟨⟨0 + 1, ao2, cap2, by omega, by simp, ?_, ?_, ?_⟩, by simp [intOf]; omega⟩
              · rw [eL.out]; simp
              · exact (hb.alloc hb.size _).grown hg2 (by simp; omega) (fun k hk => (hv k hk).1)
              · rw [eL.out, pairVals_append]
                simpa [pairVals] using ho2
            | succ j =>
              obtain ⟨y, hyj⟩ : ∃ y, g.items[j]? = some y := ⟨_, List.getElem?_eq_getElem (by omega)⟩
              have hy0 : y.done ≤ 0 := by
                simp [prevDone, hyj] at hp
                exact hp
              have tj := (hb.cell (p := ⟨gi, j * 4 + 1, none⟩) li).trans (hgi.cell (itVals_at g.items j y hyj).2.1)
              have eL : Hid (doneTo g.items ((j + 1) + 1) = doneTo g.items (j + 1) ++ [((((j + 1) : Nat) : Int), (((j + 1) : Nat) : Int))]) := hide (doneTo_new hx h0 hp)
              have hl400 := doneTo_len g.items (j + 1)
              have hba := hb.size
              go_wp2_with (first
                | (at_builtin; refine wpList_append_own _ rfl _ _ 74 rfl w1.heap.size 69 j0 _ 2 16 Tryz.underlying74 hj hj0 hj1 hj2 rfl (by decide) _ _ _ rfl (ho.alloc _) ⟨wr.heap.size, 0, none⟩ 1 1 [.int .i64 (((j + 1) : Nat) : Int), .int .i64 (((j + 1) : Nat) : Int)] rfl rfl (cells_new5 wr _ 69) (by simp [Value.oneCell']) (by unfold maxLen; omega) (by omega) (by simp; omega) ?_; intro v2 w2 ho2 hg2 hnl2; obtain ⟨ao2, cap2, e2⟩ := ownsRow_slice ho2; subst e2)
                | go_in)
              have hv := ho.lt
              refine ⟨⟨(j + 1) + 1, ao2, cap2, by omega, by simp, ?_, ?_, ?_⟩, by simp [intOf]; omega⟩
              · rw [eL.out]; simp
              · exact (hb.alloc hb.size _).grown hg2 (by simp; omega) (fun k hk => (hv k hk).1)
              · rw [eL.out, pairVals_append]
                simpa [pairVals] using ho2
          · cases n with
            | zero => simp [prevDone] at hp
            | succ j =>
              obtain ⟨y, hyj⟩ : ∃ y, g.items[j]? = some y := ⟨_, List.getElem?_eq_getElem (by omega)⟩
              have hy0 : 0 < y.done := by simpa [prevDone, hyj] using hp
              have tj := (hb.cell (p := ⟨gi, j * 4 + 1, none⟩) li).trans (hgi.cell (itVals_at g.items j y hyj).2.1)
              obtain ⟨a, r, ea, eb⟩ := doneTo_more hx h0 hp
              have hl400 := doneTo_len g.items (j + 1)
              have eb' : Hid (doneTo g.items (j + 1 + 1) = a ++ [(r.1, ((j + 1 : Nat) : Int))]) := hide eb
              have ea' : Hid (doneTo g.items (j + 1) = a ++ [r]) := hide ea
              have hNl : (doneTo g.items (j + 1)).length = a.length + 1 := by rw [ea]; simp
              rw [hNl] at ho hl400 ⊢
              clear ea eb hNl
              obtain ⟨og, ocap, eo, hog, hog2⟩ := ownsRow_some ho (by omega)
              cases eo
              have hlast : (pairVals (doneTo g.items (j + 1)))[a.length * 2 + 1]? = some (.int .i64 r.2) := by
                rw [ea'.out, pairVals_append, List.getElem?_append_right (by rw [pairVals_length]; omega), pairVals_length]
                simp [pairVals]
              have tl := ownsRow_cell ho hlast
              have tf := ownsRow_frozen ho (a.length * 2 + 1)
              clear hlast
              go_wp2
              refine ⟨⟨j + 1 + 1, some ⟨og, 0, none⟩, cap, by omega, by simp, ?_, ?_, ?_⟩, by simp [intOf]; omega⟩
              · rw [eb'.out]; simp
              · exact hb.setCell (p := ⟨og, a.length * 2 + 1, none⟩) hog _
              · have hos := ownsRow_set ho (a.length * 2 + 1) (.int .i64 ((j + 1 : Nat) : Int))
                rw [ea'.out, pairVals_last] at hos
                rw [eb'.out]
                simpa using hos
      · have hn2 : n = g.items.length := by omega
        go_wp2
        go_ret2
        rw [hL.out, hE.out, ← hn2]
        exact ⟨ao, cap, rfl, hb, ho⟩

end Go.Proofs.YtockkceclkcgbaaGreatDoor

/- The contract of the document's Dead: a new list of what was delivered too often. -/
namespace Go.Proofs.YtockkceclkcgbaaGreatDoor
open Go.RowKit

/-- A delivery: its offset, its try, its body. -/
structure Dl where
  off : Int
  tr : Int
  body : ByteArray

def Dl.vals (x : Dl) : List Value := [.int .i64 x.off, .int .i64 x.tr, .string x.body]
def dlVals : List Dl → List Value
  | [] => []
  | x :: r => .int .i64 x.off :: .int .i64 x.tr :: .string x.body :: dlVals r
theorem dlVals_length : ∀ l : List Dl, (dlVals l).length = l.length * 3
  | [] => rfl
  | x :: l => by simp [dlVals, dlVals_length l]; omega
theorem dlVals_append : ∀ a b : List Dl, dlVals (a ++ b) = dlVals a ++ dlVals b
  | [], _ => rfl
  | x :: a, b => by simp [dlVals, dlVals_append a b]

/-- what is told of a dead message -/
def deadOf (m : MQ) (g : MG) (n : Nat) : Dl := ⟨n, (g.items.getD n ⟨0, 0, 0, 0⟩).tries, m.bodies.getD n ⟨#[]⟩⟩
def deadL (m : MQ) (s : ByteArray) : List Dl := match m.at s with
  | none => []
  | some k => match m.groups[k]? with
    | none => []
    | some g => g.dead.map (deadOf m g)

theorem info71 : (Tryz.prog.info? 82).map (fun i => (i.zero, i.size, i.bytes)) = some (some (.agg #[.int .i64 0, .int .i64 0, .string ⟨#[]⟩]), 3, 32) := by kernel_rfl

set_option maxRecDepth 100000 in
set_option maxHeartbeats 4000000 in
theorem ydead_any (i b : Nat) (m : MQ) (s : ByteArray) (w : World) (T : Nat → Tag) (hy : YQ w T i b m.rq) (hok : m.Ok) (hdl : ∀ g ∈ m.groups, g.dead.length ≤ 4000) :
    Calls Tryz.prog 50 #[.pointer (some ⟨b, 0, none⟩), .string s] w fun e w' => ∃ ao cap, e = .returned (.tuple #[.slice ao (deadL m s).length cap, .int .i64 (doneE m s)]) ∧ Below w.heap.size w w' ∧ w'.ownsRow w.heap.size 82 3 (.slice ao (deadL m s).length cap) (deadL m s).length (dlVals (deadL m s)) := by
  go_enter Tryz.func50, Tryz.ntmps50
  go_wp2_with fail
  refine (yat_any i b m.rq s w T hy).mono ?_
  rintro e w1 ⟨rfl, rfl⟩
  cases ha : m.at s with
  | none =>
    rw [place_none ha]
    go_wp2
    go_ret2
    have e1 : deadL m s = [] := by simp [deadL, ha]
    have e2 : doneE m s = 10 := by simp [doneE, ha]
    rw [e1, e2]
    exact ⟨none, 0, rfl, Below.refl _ _, World.ownsRow_nil _ _ _ _⟩
  | some k =>
    rw [place_some ha]
    obtain ⟨g, hg, hgn⟩ := at_group ha
    have hL : Hid (deadL m s = g.dead.map (deadOf m g)) := hide (by simp [deadL, ha, hg])
    have hE : Hid (doneE m s = 0) := hide (by simp [doneE, ha])
    clear hgn
    have hkl : k < m.groups.length := (List.getElem?_eq_some_iff.1 hg).1
    have hlen : g.items.length = m.bodies.length := hok.len g (List.mem_of_getElem? hg)
    have hdd := hok.dead g (List.mem_of_getElem? hg)
    have hd4 := hdl g (List.mem_of_getElem? hg)
    obtain ⟨hsm, hfew, hfl, vB, vG, vi, vd, hB, hR, hG, hI⟩ := hy
    have hgl : m.rq.groups.length = m.groups.length := by simp [MQ.rq]
    have hbl : m.rq.bodies.length = m.bodies.length := by simp [MQ.rq]
    rw [hgl] at hG hfew
    rw [hbl] at hI hsm hR
    obtain ⟨gb, gc, rfl⟩ := row_some hG (by omega)
    obtain ⟨bo, bc, rfl⟩ := row_form hR
    have lb := hB.lt
    have lg := hG.lt
    have c6 := hB.cell (j := 6) rfl
    have c4 := hB.cell (j := 4) rfl
    simp only [List.getElem_toArray, List.getElem_cons_succ, List.getElem_cons_zero] at c6 c4
    obtain ⟨d0, d1, d2, d3⟩ := groupCells_at m.rq.groups vi vd k g.rg (rq_group hg)
    replace d0 := hG.cell d0
    replace d1 := hG.cell d1
    replace d2 := hG.cell d2
    replace d3 := hG.cell d3
    have hgi := (hI k g.rg (rq_group hg)).1
    have hgd := (hI k g.rg (rq_group hg)).2
    obtain ⟨io, ic, hvi⟩ := row_form hgi
    obtain ⟨dO, dc, hvd⟩ := row_form hgd
    have hdlen : g.rg.dead.length = g.dead.length := by simp [MG.rg]
    rw [hvi] at d2 hgi
    rw [hvd, hdlen] at d3 hgd
    obtain ⟨j0, hj, hj0, hj1, hj2⟩ := info_parts info71
    clear hB hG hI hvi hvd hgl hbl hfl hdlen
    have hN : g.items.length ≤ 400 := by omega
    go_wp2_with fail
    have hb0 : Below w1.heap.size w1 (w1.alloc (.cells #[.string g.rg.name, .int .i64 g.rg.start, .slice io m.bodies.length ic, .slice dO g.dead.length dc] 109)) := (Below.refl _ _).alloc (Nat.le_refl _) _
    have hC0 : (w1.alloc (.cells #[.string g.rg.name, .int .i64 g.rg.start, .slice io m.bodies.length ic, .slice dO g.dead.length dc] 109)).heap[w1.heap.size]? = some (.cells #[.string g.rg.name, .int .i64 g.rg.start, .slice io m.bodies.length ic, .slice dO g.dead.length dc] 109 (0, 0)) := heap_alloc_new w1 _
    go_loopw [7, 9] (fun u7 u9 wr => ∃ (n : Nat) (ao : Option Addr) (cap : Nat), n ≤ g.dead.length ∧ u9 = .int .i64 n ∧ u7 = .slice ao n cap ∧ Below w1.heap.size w1 wr ∧ wr.heap[w1.heap.size]? = some (.cells #[.string g.rg.name, .int .i64 g.rg.start, .slice io m.bodies.length ic, .slice dO g.dead.length dc] 109 (0, 0)) ∧
        wr.ownsRow (w1.heap.size + 1) 82 3 (.slice ao n cap) n (dlVals ((g.dead.take n).map (deadOf m g)))) (fun _ u9 _ => g.dead.length - (intOf u9).toNat)
    case atStart => exact ⟨0, none, 0, Nat.zero_le _, rfl, rfl, hb0, hC0, World.ownsRow_nil _ _ _ _⟩
    case round =>
      obtain ⟨n, ao, cap, hn, rfl, rfl, hb, hC, ho⟩ := hrel
      have hCb : Blk wr (fun _ => .free) .free w1.heap.size #[.string g.rg.name, .int .i64 g.rg.start, .slice io m.bodies.length ic, .slice dO g.dead.length dc] 109 := ⟨rfl, hC⟩
      have u2 := hCb.cell (j := 2) rfl
      have u3 := hCb.cell (j := 3) rfl
      have lC := hCb.lt
      simp only [List.getElem_toArray, List.getElem_cons_succ, List.getElem_cons_zero] at u2 u3
      by_cases hlt : n < g.dead.length
      · obtain ⟨q, hq⟩ : ∃ q, g.dead[n]? = some q := ⟨_, List.getElem?_eq_getElem hlt⟩
        have hqb : q < m.bodies.length := hdd q (List.mem_of_getElem? hq)
        obtain ⟨x, hx⟩ : ∃ x, g.items[q]? = some x := ⟨_, List.getElem?_eq_getElem (by omega)⟩
        obtain ⟨bd, hbd⟩ : ∃ bd, m.bodies[q]? = some bd := ⟨_, List.getElem?_eq_getElem hqb⟩
        obtain ⟨gi, ic', e⟩ := row_some hgi (by omega)
        cases e
        obtain ⟨gd, dc', e⟩ := row_some hgd (by omega)
        cases e
        obtain ⟨gz, bc', e⟩ := row_some hR (by omega)
        cases e
        have li := hgi.lt
        have ld := hgd.lt
        have lz := hR.lt
        have tq := (hb.cell (p := ⟨gd, n, none⟩) ld).trans (hgd.cell (show (g.rg.dead)[n]? = some (.int .i64 q) by simp [MG.rg, hq, natV]))
        have tx := (hb.cell (p := ⟨gi, q * 4, none⟩) li).trans (hgi.cell (itVals_at g.items q x hx).1)
        have tb := (hb.cell (p := ⟨gz, q, none⟩) lz).trans (hR.cell (show (m.rq.bodies)[q]? = some (.string bd) by simp [MQ.rq, hbd]))
        have tc := (hb.cell (p := ⟨b, 4, none⟩) lb).trans c4
        have ls := hb.size
        have eL : Hid (dlVals ((g.dead.take (n + 1)).map (deadOf m g)) = dlVals ((g.dead.take n).map (deadOf m g)) ++ [.int .i64 q, .int .i64 x.tries, .string bd]) := hide (by
          have h1 : g.dead.take (n + 1) = g.dead.take n ++ [q] := by rw [List.take_add_one, hq]; rfl
          rw [h1, List.map_append, dlVals_append]
          simp [dlVals, deadOf, List.getD, hx, hbd])
        have hal := ho.alloc (.cells #[.int .i64 q, .int .i64 x.tries, .string bd] 82)
        obtain ⟨v2, w2, hrun, ho2, hg2, _⟩ := run_append_own (P := Tryz.prog) (wr.drew.alloc (.cells #[.int .i64 q, .int .i64 x.tries, .string bd] 82)) (w1.heap.size + 1) 77 77 82 j0 _ 3 32 Tryz.underlying77 hj hj0 hj1 hj2 rfl (by decide) _ n _ hal ⟨wr.heap.size, 0, none⟩ 1 1 [.int .i64 q, .int .i64 x.tries, .string bd] rfl (cells_new5 wr.drew _ 82) (by simp [Value.oneCell']) (by unfold maxLen; omega) (by omega) (by simp; omega)
        obtain ⟨ao2, cap2, e2⟩ := ownsRow_slice ho2
        subst e2
        have hv := ho.lt
        have hb2 : Below w1.heap.size w1 w2 := ((hb.drew.alloc (by simp; omega) _).grown hg2 (by simp; omega) (fun k hk => by have := (hv k hk).1; omega))
        have hC2 : w2.heap[w1.heap.size]? = some (.cells #[.string g.rg.name, .int .i64 g.rg.start, .slice (some ⟨gi, 0, none⟩) m.bodies.length ic, .slice (some ⟨gd, 0, none⟩) g.dead.length dc] 109 (0, 0)) := by
          rw [hg2.block w1.heap.size (by simp; omega) (fun e => by have := (hv w1.heap.size e.symm).1; omega), Below.heap_alloc wr.drew _ _ lC]
          exact hC
        go_wp2_with fail
        go_region_law (refine step_append_known rfl _ _ 77 rfl _ _ _ rfl rfl hrun ?_)
        all_goals
          go_wp2
          refine ⟨⟨n + 1, ao2, cap2, by omega, by simp, by simp, hb2, hC2, ?_⟩, by simp [intOf]; omega⟩
          rw [eL.out]
          exact ho2
      · have hn2 : n = g.dead.length := by omega
        go_wp2
        go_ret2
        rw [hL.out, hE.out, List.length_map, ← hn2]
        rw [hn2, List.take_length] at ho
        refine ⟨ao, cap, rfl, hb, ?_⟩
        rw [hn2]
        rcases ho with ⟨h1, h2⟩
        refine ⟨h1, ?_⟩
        rcases h2 with h2 | ⟨gg, cc, cur, h3, h4, h5⟩
        · exact .inl h2
        · exact .inr ⟨gg, cc, cur, h3, by omega, h5⟩

end Go.Proofs.YtockkceclkcgbaaGreatDoor

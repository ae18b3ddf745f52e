/- The contract of the document's Dead: a new list of what was delivered too often. -/
import Derived.Test.YtgcbooflhdjnhaaT11
namespace Go.Proofs.Ytgcbooflhdjnhaa
open Go.RowKit

/-- A delivery: its offset, its try, its body. -/
structure Dl where
  off : Int
  tr : Int
  body : ByteArray

def Dl.vals (x : Dl) : List Value := [.int .i64 x.off, .int .i64 x.tr, .string x.body]
def dlVals : List Dl → List Value
  | [] => []
  | x :: r => .int .i64 x.off :: .int .i64 x.tr :: .string x.body :: dlVals r
theorem dlVals_length : ∀ l : List Dl, (dlVals l).length = l.length * 3
  | [] => rfl
  | x :: l => by simp [dlVals, dlVals_length l]; omega
theorem dlVals_append : ∀ a b : List Dl, dlVals (a ++ b) = dlVals a ++ dlVals b
  | [], _ => rfl
  | x :: a, b => by simp [dlVals, dlVals_append a b]

/-- what is told of a dead message -/
def deadOf (m : MQ) (g : MG) (n : Nat) : Dl := ⟨n, (g.items.getD n ⟨0, 0, 0, 0⟩).tries, m.bodies.getD n ⟨#[]⟩⟩
def deadL (m : MQ) (s : ByteArray) : List Dl := match m.at s with
  | none => []
  | some k => match m.groups[k]? with
    | none => []
    | some g => g.dead.map (deadOf m g)

theorem info71 : (Try.prog.info? 89).map (fun i => (i.zero, i.size, i.bytes)) = some (some (.agg #[.int .i64 0, .int .i64 0, .string ⟨#[]⟩]), 3, 32) := by kernel_rfl

set_option maxRecDepth 100000 in
set_option maxHeartbeats 4000000 in
theorem ydead_any (i b : Nat) (m : MQ) (s : ByteArray) (w : World) (T : Nat → Tag) (hy : YQ w T i b m.rq) (hok : m.Ok) (hdl : ∀ g ∈ m.groups, g.dead.length ≤ 4000) :
    Calls Try.prog 49 #[.pointer (some ⟨b, 0, none⟩), .string s] w fun e w' => ∃ ao cap, e = .returned (.tuple #[.slice ao (deadL m s).length cap, .int .i64 (doneE m s)]) ∧ Below w.heap.size w w' ∧ w'.ownsRow w.heap.size 89 3 (.slice ao (deadL m s).length cap) (deadL m s).length (dlVals (deadL m s)) := by
  go_enter Try.func49, Try.ntmps49
  go_wp2_with fail
  refine (yat_any i b m.rq s w T hy).mono ?_
  rintro e w1 ⟨rfl, rfl⟩
  cases ha : m.at s with
  | none =>
    rw [place_none ha]
    go_wp2
    go_ret2
    have e1 : deadL m s = [] := by simp [deadL, ha]
    have e2 : doneE m s = 10 := by simp [doneE, ha]
    rw [e1, e2]
    exact ⟨none, 0, rfl, Below.refl _ _, World.ownsRow_nil _ _ _ _⟩
  | some k =>
    rw [place_some ha]
    obtain ⟨g, hg, hgn⟩ := at_group ha
    have hL : Hid (deadL m s = g.dead.map (deadOf m g)) := hide (by simp [deadL, ha, hg])
    have hE : Hid (doneE m s = 0) := hide (by simp [doneE, ha])
    clear hgn
    have hkl : k < m.groups.length := (List.getElem?_eq_some_iff.1 hg).1
    have hlen : g.items.length = m.bodies.length := hok.len g (List.mem_of_getElem? hg)
    have hdd := hok.dead g (List.mem_of_getElem? hg)
    have hd4 := hdl g (List.mem_of_getElem? hg)
    obtain ⟨hsm, hfew, hfl, vB, vG, vi, vd, hB, hR, hG, hI⟩ := hy
    have hgl : m.rq.groups.length = m.groups.length := by simp [MQ.rq]
    have hbl : m.rq.bodies.length = m.bodies.length := by simp [MQ.rq]
    rw [hgl] at hG hfew
    rw [hbl] at hI hsm hR
    obtain ⟨gb, gc, rfl⟩ := row_some hG (by omega)
    obtain ⟨bo, bc, rfl⟩ := row_form hR
    have lb := hB.lt
    have lg := hG.lt
    have c6 := hB.cell (j := 6) rfl
    have c4 := hB.cell (j := 4) rfl
    simp only [List.getElem_toArray, List.getElem_cons_succ, List.getElem_cons_zero] at c6 c4
    obtain ⟨d0, d1, d2, d3⟩ := groupCells_at m.rq.groups vi vd k g.rg (rq_group hg)
    replace d0 := hG.cell d0
    replace d1 := hG.cell d1
    replace d2 := hG.cell d2
    replace d3 := hG.cell d3
    have hgi := (hI k g.rg (rq_group hg)).1
    have hgd := (hI k g.rg (rq_group hg)).2
    obtain ⟨io, ic, hvi⟩ := row_form hgi
    obtain ⟨dO, dc, hvd⟩ := row_form hgd
    have hdlen : g.rg.dead.length = g.dead.length := by simp [MG.rg]
    rw [hvi] at d2 hgi
    rw [hvd, hdlen] at d3 hgd
    obtain ⟨j0, hj, hj0, hj1, hj2⟩ := info_parts info71
    clear hB hG hI hvi hvd hgl hbl hfl hdlen
    have hN : g.items.length ≤ 400 := by omega
    go_wp2_with fail
    have hb0 : Below w1.heap.size w1 (w1.alloc (.cells #[.string g.rg.name, .int .i64 g.rg.start, .slice io m.bodies.length ic, .slice dO g.dead.length dc] 108)) := (Below.refl _ _).alloc (Nat.le_refl _) _
    have hC0 : (w1.alloc (.cells #[.string g.rg.name, .int .i64 g.rg.start, .slice io m.bodies.length ic, .slice dO g.dead.length dc] 108)).heap[w1.heap.size]? = some (.cells #[.string g.rg.name, .int .i64 g.rg.start, .slice io m.bodies.length ic, .slice dO g.dead.length dc] 108 (0, 0)) := heap_alloc_new w1 _
    go_loopw [7, 9] (fun u7 u9 wr => ∃ (n : Nat) (ao : Option Addr) (cap : Nat), n ≤ g.dead.length ∧ u9 = .int .i64 n ∧ u7 = .slice ao n cap ∧ Below w1.heap.size w1 wr ∧ wr.heap[w1.heap.size]? = some (.cells #[.string g.rg.name, .int .i64 g.rg.start, .slice io m.bodies.length ic, .slice dO g.dead.length dc] 108 (0, 0)) ∧
        wr.ownsRow (w1.heap.size + 1) 89 3 (.slice ao n cap) n (dlVals ((g.dead.take n).map (deadOf m g)))) (fun _ u9 _ => g.dead.length - (intOf u9).toNat)
    case atStart => exact ⟨0, none, 0, Nat.zero_le _, rfl, rfl, hb0, hC0, World.ownsRow_nil _ _ _ _⟩
    case round =>
      obtain ⟨n, ao, cap, hn, rfl, rfl, hb, hC, ho⟩ := hrel
      have hCb : Blk wr (fun _ => .free) .free w1.heap.size #[.string g.rg.name, .int .i64 g.rg.start, .slice io m.bodies.length ic, .slice dO g.dead.length dc] 108 := ⟨rfl, hC⟩
      have u2 := hCb.cell (j := 2) rfl
      have u3 := hCb.cell (j := 3) rfl
      have lC := hCb.lt
      simp only [List.getElem_toArray, List.getElem_cons_succ, List.getElem_cons_zero] at u2 u3
      by_cases hlt : n < g.dead.length
      · obtain ⟨q, hq⟩ : ∃ q, g.dead[n]? = some q := ⟨_, List.getElem?_eq_getElem hlt⟩
        have hqb : q < m.bodies.length := hdd q (List.mem_of_getElem? hq)
        obtain ⟨x, hx⟩ : ∃ x, g.items[q]? = some x := ⟨_, List.getElem?_eq_getElem (by omega)⟩
        obtain ⟨bd, hbd⟩ : ∃ bd, m.bodies[q]? = some bd := ⟨_, List.getElem?_eq_getElem hqb⟩
        obtain ⟨gi, ic', e⟩ := row_some hgi (by omega)
        cases e
        obtain ⟨gd, dc', e⟩ := row_some hgd (by omega)
        cases e
        obtain ⟨gz, bc', e⟩ := row_some hR (by omega)
        cases e
        have li := hgi.lt
        have ld := hgd.lt
        have lz := hR.lt
        have tq := (hb.cell (p := ⟨gd, n, none⟩) ld).trans (hgd.cell (show (g.rg.dead)[n]? = some (.int .i64 q) by simp [MG.rg, hq, natV]))
        have tx := (hb.cell (p := ⟨gi, q * 4, none⟩) li).trans (hgi.cell (itVals_at g.items q x hx).1)
        have tb := (hb.cell (p := ⟨gz, q, none⟩) lz).trans (hR.cell (show (m.rq.bodies)[q]? = some (.string bd) by simp [MQ.rq, hbd]))
        have tc := (hb.cell (p := ⟨b, 4, none⟩) lb).trans c4
        have ls := hb.size
        have eL : Hid (dlVals ((g.dead.take (n + 1)).map (deadOf m g)) = dlVals ((g.dead.take n).map (deadOf m g)) ++ [.int .i64 q, .int .i64 x.tries, .string bd]) := hide (by
          have h1 : g.dead.take (n + 1) = g.dead.take n ++ [q] := by rw [List.take_add_one, hq]; rfl
          rw [h1, List.map_append, dlVals_append]
          simp [dlVals, deadOf, List.getD, hx, hbd])
        have hal := ho.alloc (.cells #[.int .i64 q, .int .i64 x.tries, .string bd] 89)
        obtain ⟨v2, w2, hrun, ho2, hg2, _⟩ := run_append_own (P := Try.prog) (wr.drew.alloc (.cells #[.int .i64 q, .int .i64 x.tries, .string bd] 89)) (w1.heap.size + 1) 87 87 89 j0 _ 3 32 Try.underlying87 hj hj0 hj1 hj2 rfl (by decide) _ n _ hal ⟨wr.heap.size, 0, none⟩ 1 1 [.int .i64 q, .int .i64 x.tries, .string bd] rfl (cells_new5 wr.drew _ 89) (by simp [Value.oneCell']) (by unfold maxLen; omega) (by omega) (by simp; omega)
        obtain ⟨ao2, cap2, e2⟩ := ownsRow_slice ho2
        subst e2
        have hv := ho.lt
        have hb2 : Below w1.heap.size w1 w2 := ((hb.drew.alloc (by simp; omega) _).grown hg2 (by simp; omega) (fun k hk => by have := (hv k hk).1; omega))
        have hC2 : w2.heap[w1.heap.size]? = some (.cells #[.string g.rg.name, .int .i64 g.rg.start, .slice (some ⟨gi, 0, none⟩) m.bodies.length ic, .slice (some ⟨gd, 0, none⟩) g.dead.length dc] 108 (0, 0)) := by
          rw [hg2.block w1.heap.size (by simp; omega) (fun e => by have := (hv w1.heap.size e.symm).1; omega), Below.heap_alloc wr.drew _ _ lC]
          exact hC
        go_wp2_with fail
        go_region_law (refine step_append_known rfl _ _ 87 rfl _ _ _ rfl rfl hrun ?_)
        all_goals
          go_wp2
          refine ⟨⟨n + 1, ao2, cap2, by omega, by simp, by simp, hb2, hC2, ?_⟩, by simp [intOf]; omega⟩
          rw [eL.out]
          exact ho2
      · have hn2 : n = g.dead.length := by omega
        go_wp2
        go_ret2
        rw [hL.out, hE.out, List.length_map, ← hn2]
        rw [hn2, List.take_length] at ho
        refine ⟨ao, cap, rfl, hb, ?_⟩
        rw [hn2]
        rcases ho with ⟨h1, h2⟩
        refine ⟨h1, ?_⟩
        rcases h2 with h2 | ⟨gg, cc, cur, h3, h4, h5⟩
        · exact .inl h2
        · exact .inr ⟨gg, cc, cur, h3, by omega, h5⟩

end Go.Proofs.Ytgcbooflhdjnhaa

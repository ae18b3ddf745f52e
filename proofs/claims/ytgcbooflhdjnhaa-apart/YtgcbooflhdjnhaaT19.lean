/- The law over any queue that keeps the document's contracts: what those contracts are; a pair of queues; the contract of try. -/
import Derived.Test.YtgcbooflhdjnhaaT18
import Derived.Test.YtgcbooflhdjnhaaT05
import Derived.Test.YtgcbooflhdjnhaaT14
import Derived.Test.YtgcbooflhdjnhaaT17
namespace Go.Proofs.Ytgcbooflhdjnhaa
open Go.RowKit

/-- the blocks of the queue of number i -/
def XT (i : Nat) (t : Tag) : Prop := t.c = 5 ∧ t.i = i
/-- the blocks of the document's queue of number i -/
def YT (i : Nat) (t : Tag) : Prop := ∃ r j, t = .y i r j

/-- What a queue must keep: X tells how it lies in memory. -/
structure XC (X : World → (Nat → Tag) → Nat → Nat → MQ → Prop) (B : Int) : Prop where
  step : ∀ {S : Tag → Prop} {w w' : World} {T T' : Nat → Tag} {i b : Nat} {m : MQ}, X w T i b m → Step S w T w' T' → (∀ t, XT i t → ¬ S t) → X w' T' i b m
  opn : ∀ (c : Conf) (i : Nat) (w : World) (T : Nat → Tag), Calls Try.prog 38 #[.agg c.cells, .string ⟨#[]⟩] w fun e w' => (goodC c = false ∧ e = .returned (.tuple #[.pointer none, .int .i64 1]) ∧ Below w.heap.size w w') ∨
      (goodC c = true ∧ ∃ b T', e = .returned (.tuple #[.pointer (some ⟨b, 0, none⟩), .int .i64 0]) ∧ Step (fun _ => False) w T w' T' ∧ X w' T' i b ⟨c, [], 0, [], 0, 0⟩)
  log : ∀ (i b : Nat) (m : MQ) (w : World) (T : Nat → Tag), X w T i b m → m.Fit B → Calls Try.prog 40 #[.pointer (some ⟨b, 0, none⟩)] w fun e w' => ∃ s, e = .returned (.string s) ∧ ∃ T', Step (XT i) w T w' T' ∧ X w' T' i b m
  enq : ∀ (i b : Nat) (m : MQ) (s : ByteArray) (w : World) (T : Nat → Tag), X w T i b m → m.Fit B → Calls Try.prog 18 #[.pointer (some ⟨b, 0, none⟩), .string s] w fun e w' =>
      e = .returned (.tuple #[.int .i64 (bif decide (menqE m s = 0) then (m.bodies.length : Int) else 0), .int .i64 (menqE m s)]) ∧ ∃ T', Step (XT i) w T w' T' ∧ X w' T' i b (menqM m s)
  grp : ∀ (i b : Nat) (m : MQ) (s : ByteArray) (fr : Int) (w : World) (T : Nat → Tag), X w T i b m → m.Fit B → Calls Try.prog 61 #[.pointer (some ⟨b, 0, none⟩), .string s, .int .i64 fr] w fun e w' =>
      e = .returned (.int .i64 (mgrpE m s fr)) ∧ ∃ T', Step (XT i) w T w' T' ∧ X w' T' i b (mgrpM m s fr)
  recv : ∀ (i b : Nat) (m : MQ) (s : ByteArray) (n : Int) (t : Tag) (w : World) (T : Nat → Tag), X w T i b m → m.Fit B → Calls Try.prog 78 #[.pointer (some ⟨b, 0, none⟩), .string s, .int .i64 n] w fun e w' =>
      ∃ ao cap, e = .returned (.tuple #[.slice ao (recvL m s n).length cap, .int .i64 (recvE m s n)]) ∧ ∃ T', Step (XT i) w T w' T' ∧ X w' T' i b (recvM m s n) ∧ Row w' T' t 89 3 (.slice ao (recvL m s n).length cap) (recvL m s n).length (dlVals (recvL m s n))
  ack : ∀ (i b : Nat) (m : MQ) (s : ByteArray) (off tr : Int) (w : World) (T : Nat → Tag), X w T i b m → m.Fit B → Calls Try.prog 82 #[.pointer (some ⟨b, 0, none⟩), .string s, .int .i64 off, .int .i64 tr] w fun e w' =>
      e = .returned (.int .i64 (leasedE m s off tr)) ∧ ∃ T', Step (XT i) w T w' T' ∧ X w' T' i b (ackM m s off tr)
  nack : ∀ (i b : Nat) (m : MQ) (s : ByteArray) (off tr d : Int) (w : World) (T : Nat → Tag), X w T i b m → m.Fit B → Calls Try.prog 86 #[.pointer (some ⟨b, 0, none⟩), .string s, .int .i64 off, .int .i64 tr, .int .i64 d] w fun e w' =>
      e = .returned (.int .i64 (rangedE m s off tr d 0)) ∧ ∃ T', Step (XT i) w T w' T' ∧ X w' T' i b (nackM m s off tr d)
  ext : ∀ (i b : Nat) (m : MQ) (s : ByteArray) (off tr d : Int) (w : World) (T : Nat → Tag), X w T i b m → m.Fit B → Calls Try.prog 94 #[.pointer (some ⟨b, 0, none⟩), .string s, .int .i64 off, .int .i64 tr, .int .i64 d] w fun e w' =>
      e = .returned (.int .i64 (rangedE m s off tr d 1)) ∧ ∃ T', Step (XT i) w T w' T' ∧ X w' T' i b (extendM m s off tr d)
  tick : ∀ (i b : Nat) (m : MQ) (d : Int) (w : World) (T : Nat → Tag), X w T i b m → m.Fit B → Calls Try.prog 87 #[.pointer (some ⟨b, 0, none⟩), .int .i64 d] w fun e w' =>
      e = .returned (.int .i64 (tickE d)) ∧ ∃ T', Step (XT i) w T w' T' ∧ X w' T' i b (tickM m d)
  done : ∀ (i b : Nat) (m : MQ) (s : ByteArray) (t : Tag) (w : World) (T : Nat → Tag), X w T i b m → m.Fit B → Calls Try.prog 28 #[.pointer (some ⟨b, 0, none⟩), .string s] w fun e w' =>
      ∃ ao cap, e = .returned (.tuple #[.slice ao (doneL m s).length cap, .int .i64 (doneE m s)]) ∧ ∃ T', Step (XT i) w T w' T' ∧ X w' T' i b m ∧ Row w' T' t 31 2 (.slice ao (doneL m s).length cap) (doneL m s).length (pairVals (doneL m s))
  dead : ∀ (i b : Nat) (m : MQ) (s : ByteArray) (t : Tag) (w : World) (T : Nat → Tag), X w T i b m → m.Fit B → Calls Try.prog 48 #[.pointer (some ⟨b, 0, none⟩), .string s] w fun e w' =>
      ∃ ao cap, e = .returned (.tuple #[.slice ao (deadL m s).length cap, .int .i64 (doneE m s)]) ∧ ∃ T', Step (XT i) w T w' T' ∧ X w' T' i b m ∧ Row w' T' t 89 3 (.slice ao (deadL m s).length cap) (deadL m s).length (dlVals (deadL m s))
  span : ∀ (i b : Nat) (m : MQ) (w : World) (T : Nat → Tag), X w T i b m → m.Fit B → Calls Try.prog 52 #[.pointer (some ⟨b, 0, none⟩)] w fun e w' =>
      e = .returned (.agg #[.int .i64 m.floor, .int .i64 m.bodies.length]) ∧ ∃ T', Step (XT i) w T w' T' ∧ X w' T' i b m
  ret : ∀ (i b : Nat) (m : MQ) (w : World) (T : Nat → Tag), X w T i b m → m.Fit B → Calls Try.prog 72 #[.pointer (some ⟨b, 0, none⟩)] w fun e w' =>
      e = .returned (.int .i64 (retainN m)) ∧ ∃ T', Step (XT i) w T w' T' ∧ X w' T' i b (retainM m)

/-- The pair of number i, in block p: a queue and the document's, which are the same. -/
def PairT (X : World → (Nat → Tag) → Nat → Nat → MQ → Prop) (B : Int) (w : World) (T : Nat → Tag) (i p : Nat) : Prop :=
  ∃ (bx yb : Nat) (m : MQ) (vs : Value) (lg : ByteArray), Blk w T (.pair i) p #[.pointer (some ⟨bx, 0, none⟩), .pointer (some ⟨yb, 0, none⟩), .int .i64 m.c.l, .int .i64 m.c.d, .int .i64 m.c.s, .int .i64 m.c.k, vs, .string lg] 56 ∧
    X w T i bx m ∧ YQ w T i yb m.rq ∧ m.Fit B

theorem PairT.step {X : World → (Nat → Tag) → Nat → Nat → MQ → Prop} {B B' : Int} (hX : XC X B') {S : Tag → Prop} {w w' : World} {T T' : Nat → Tag} {i p : Nat} (h : PairT X B w T i p) (hs : Step S w T w' T') (h1 : ¬ S (.pair i)) (h2 : ∀ t, XT i t → ¬ S t) (h3 : ∀ r k, ¬ S (.y i r k)) : PairT X B w' T' i p := by
  obtain ⟨bx, yb, m, vs, lg, hB, hx, hy, hf⟩ := h
  exact ⟨bx, yb, m, vs, lg, hB.step hs h1, hX.step hx hs h2, hy.step hs h3, hf⟩

/-- the blocks of both queues of number i -/
def ST (i : Nat) (t : Tag) : Prop := XT i t ∨ YT i t

attribute [local go_sem] over_cell

set_option maxRecDepth 100000 in
set_option maxHeartbeats 4000000 in
/-- try answers some number and changes nothing -/
theorem try_any (i p yb : Nat) (m : MQ) (cs : Array Value) (kind qu : Int) (nm bd : ByteArray) (n tr ms : Int) (yes : Bool) (w : World) (T : Nat → Tag) (hB : Blk w T (.pair i) p cs 56) (hc : cs[1]? = some (.pointer (some ⟨yb, 0, none⟩))) (hy : YQ w T i yb m.rq) (hok : m.Ok) :
    Calls Try.prog 91 #[.pointer (some ⟨p, 0, none⟩), .agg (opCells kind qu nm bd n tr ms yes)] w fun e w' => (∃ t : Int, e = .returned (.int .i64 t)) ∧ Below w.heap.size w w' := by
  have lp := hB.lt
  have c1 := hB.cell hc
  have ob := heap_alloc_new w (.cells (opCells kind qu nm bd n tr ms yes) 61)
  have hb0 : Below w.heap.size w (w.alloc (.cells (opCells kind qu nm bd n tr ms yes) 61)) := (Below.refl _ _).alloc (Nat.le_refl _) _
  have lo : w.heap.size < (w.alloc (.cells (opCells kind qu nm bd n tr ms yes) 61)).heap.size := by simp
  have hO : Blk (w.alloc (.cells (opCells kind qu nm bd n tr ms yes) 61)) (retag T w.heap.size .free) .free w.heap.size (opCells kind qu nm bd n tr ms yes) 61 := blk_new w T _ 61 .free
  have o2 := hO.cell (j := 2) rfl
  have o4 := hO.cell (j := 4) rfl
  have o5 := hO.cell (j := 5) rfl
  have o7 := hO.cell (j := 7) rfl
  simp only [List.getElem_toArray, List.getElem_cons_succ, List.getElem_cons_zero] at o2 o4 o5 o7
  clear hO ob
  cases yes with
  | true =>
    go_enter Try.func91, Try.ntmps91
    go_wp2
    go_ret
    exact ⟨⟨tr, rfl⟩, hb0⟩
  | false =>
    obtain ⟨vG, c6⟩ : ∃ vG, w.cell? ⟨yb, 6, none⟩ = some vG ∧ ∃ go gc, vG = .slice go m.groups.length gc ∧ (0 < m.groups.length → ∃ gb, go = some ⟨gb, 0, none⟩) := by
      obtain ⟨_, _, _, vB, vG, vi, vd, hB, hR, hG, hI⟩ := hy
      have hgl : m.rq.groups.length = m.groups.length := by simp [MQ.rq]
      rw [hgl] at hG
      obtain ⟨go, gc, rfl⟩ := row_form hG
      refine ⟨_, hB.cell (j := 6) rfl, go, gc, rfl, fun h => ?_⟩
      obtain ⟨gb, gc', e⟩ := row_some hG h
      cases e
      exact ⟨gb, rfl⟩
    obtain ⟨c6, go, gc, rfl, hgo⟩ := c6
    have ly : yb < w.heap.size := by
      obtain ⟨_, _, _, vB, vG, vi, vd, hB, _⟩ := hy
      exact hB.lt
    have h6 : m.groups.length ≤ 6 := by
      have := hy.few
      simpa [MQ.rq] using this
    go_enter Try.func91, Try.ntmps91
    go_wp2
    generalize w.alloc (.cells (opCells kind qu nm bd n tr ms false) 61) = w0 at *
    go_loopw [5] (fun u wr => ∃ k : Nat, k ≤ m.groups.length ∧ u = .int .i64 k ∧ Below w0.heap.size w0 wr) (fun u _ => m.groups.length - (intOf u).toNat)
    case atStart => exact ⟨0, Nat.zero_le _, rfl, Below.refl _ _⟩
    case round =>
      obtain ⟨k, hk, rfl, hb⟩ := hrel
      have hbw := hb0.trans (hb.mono hb0.size)
      have e1 := (hbw.cell (p := ⟨p, 1, none⟩) lp).trans c1
      have e6 := (hbw.cell (p := ⟨yb, 6, none⟩) ly).trans c6
      have q2 := (hb.cell (p := ⟨w.heap.size, 2, none⟩) lo).trans o2
      have q4 := (hb.cell (p := ⟨w.heap.size, 4, none⟩) lo).trans o4
      have q5 := (hb.cell (p := ⟨w.heap.size, 5, none⟩) lo).trans o5
      by_cases hlt : k < m.groups.length
      · obtain ⟨g, hg⟩ : ∃ g, m.groups[k]? = some g := ⟨_, List.getElem?_eq_getElem hlt⟩
        obtain ⟨gb, rfl⟩ := hgo (by omega)
        obtain ⟨io, ic, dO, dc, bo, bc, L⟩ := hy.look hg c6
        have n4 := L.n400
        have d0 : w.cell? ⟨gb, k * 4, none⟩ = some (.string g.name) := by
          obtain ⟨_, _, _, vB, vG, vi, vd, hB, hR, hG, hI⟩ := hy
          have hgl : m.rq.groups.length = m.groups.length := by simp [MQ.rq]
          rw [hgl] at hG
          have c6' := hB.cell (j := 6) rfl
          simp only [List.getElem_toArray, List.getElem_cons_succ, List.getElem_cons_zero] at c6'
          rw [c6] at c6'
          cases c6'
          exact hG.cell (groupCells_at m.rq.groups vi vd k g.rg (rq_group hg)).1
        have f0 := (hbw.cell (p := ⟨gb, k * 4, none⟩) L.lg).trans d0
        have f2 := (hbw.cell (p := ⟨gb, k * 4 + 2, none⟩) L.lg).trans L.d2
        have hz := hbw.size
        have hz0 := hb.size
        have mp : p < wr.heap.size := by omega
        have my : yb < wr.heap.size := by omega
        have mg : gb < wr.heap.size := by have := L.lg; omega
        have mo : w.heap.size < wr.heap.size := by omega
        by_cases hs : g.name = nm
        · have hq : (g.name.toList == nm.toList) = true := by rw [strEq]; simp [hs]
          by_cases hn0 : 0 ≤ n
          · by_cases hn1 : n < m.bodies.length
            · obtain ⟨a, rfl⟩ : ∃ a : Nat, n = a := ⟨n.toNat, by omega⟩
              have ha : a < m.bodies.length := by omega
              obtain ⟨x, hx⟩ : ∃ x, g.items[a]? = some x := ⟨_, List.getElem?_eq_getElem (by rw [hok.len g (List.mem_of_getElem? hg)]; exact ha)⟩
              have hit := L.items
              obtain ⟨gi, ic', e⟩ := row_some hit (by omega)
              cases e
              have t0 := (hbw.cell (p := ⟨gi, a * 4, none⟩) hit.lt).trans (hit.cell (itVals_at g.items a x hx).1)
              have mi : gi < wr.heap.size := by have := hit.lt; omega
              clear L hit hB hy
              go_wp2_with fail
              refine wp_region_over (by kernel_rfl) (by kernel_rfl) ?_
              repeat (go_big_quiet_step (fail))
              refine wpQuiet_nil ?_
              rintro _ ⟨x5, rfl⟩
              have hov := hb.trans ((over_below wr x5).mono hb.size)
              have g5 := over_below wr x5
              replace e1 := (g5.cell (p := ⟨p, 1, none⟩) mp).trans e1
              replace e6 := (g5.cell (p := ⟨yb, 6, none⟩) my).trans e6
              replace f2 := (g5.cell (p := ⟨gb, k * 4 + 2, none⟩) mg).trans f2
              replace q4 := (g5.cell (p := ⟨w.heap.size, 4, none⟩) mo).trans q4
              replace t0 := (g5.cell (p := ⟨gi, a * 4, none⟩) mi).trans t0
              have s5 := g5.size
              replace mp := Nat.lt_of_lt_of_le mp s5
              replace my := Nat.lt_of_lt_of_le my s5
              replace mg := Nat.lt_of_lt_of_le mg s5
              replace mo := Nat.lt_of_lt_of_le mo s5
              replace mi := Nat.lt_of_lt_of_le mi s5
              clear g5 s5 q2 q5 f0
              generalize over wr x5 = w5 at *
              go_wp2_with fail
              refine wp_region_over (by kernel_rfl) (by kernel_rfl) ?_
              repeat (go_big_quiet_step (fail))
              refine wpQuiet_nil ?_
              rintro _ ⟨x6, rfl⟩
              have hov2 := hov.trans ((over_below w5 x6).mono hov.size)
              go_wp2
              go_ret
              exact ⟨⟨_, rfl⟩, hb0.trans (hov2.mono hb0.size)⟩
            · have hn1' : decide (n < (m.bodies.length : Int)) = false := by simp; omega
              clear L hB hy
              go_wp2_with fail
              refine wp_region_over (by kernel_rfl) (by kernel_rfl) ?_
              repeat (go_big_quiet_step (fail))
              refine wpQuiet_nil ?_
              rintro _ ⟨x5, rfl⟩
              have hov := hb.trans ((over_below wr x5).mono hb.size)
              generalize over wr x5 = w5 at *
              go_wp2
              exact ⟨⟨k + 1, by omega, by simp, hov⟩, by simp [intOf]; omega⟩
          · have hn0' : decide (0 ≤ n) = false := by simp; omega
            clear L hB hy
            go_wp2_with fail
            refine wp_region_over (by kernel_rfl) (by kernel_rfl) ?_
            repeat (go_big_quiet_step (fail))
            refine wpQuiet_nil ?_
            rintro _ ⟨x5, rfl⟩
            have hov := hb.trans ((over_below wr x5).mono hb.size)
            generalize over wr x5 = w5 at *
            go_wp2
            exact ⟨⟨k + 1, by omega, by simp, hov⟩, by simp [intOf]; omega⟩
        · have hq : (g.name.toList == nm.toList) = false := by rw [strEq]; simp [hs]
          clear L hB hy
          go_wp2_with fail
          refine wp_region_over (by kernel_rfl) (by kernel_rfl) ?_
          repeat (go_big_quiet_step (fail))
          refine wpQuiet_nil ?_
          rintro _ ⟨x5, rfl⟩
          have hov := hb.trans ((over_below wr x5).mono hb.size)
          generalize over wr x5 = w5 at *
          go_wp2
          exact ⟨⟨k + 1, by omega, by simp, hov⟩, by simp [intOf]; omega⟩
      · go_wp2
        go_ret
        exact ⟨⟨tr, rfl⟩, hbw⟩

end Go.Proofs.Ytgcbooflhdjnhaa

/- The law over any queue that keeps the document's contracts: what those contracts are; a pair of queues; the contract of try. -/
import Derived.Test.YtockkceclkcgbaaGreatDoorA07
import Derived.Test.YtockkceclkcgbaaGreatDoorA02
import Derived.Test.YtockkceclkcgbaaGreatDoorA06
import Derived.Test.YtockkceclkcgbaaGreatDoorA08
namespace Go.Proofs.YtockkceclkcgbaaGreatDoor
open Go.RowKit

/-- the blocks of the queue of number i -/
def XT (i : Nat) (t : Tag) : Prop := t.c = 5 ∧ t.i = i
/-- the blocks of the document's queue of number i -/
def YT (i : Nat) (t : Tag) : Prop := ∃ r j, t = .y i r j

/-- What a queue must keep: X tells how it lies in memory. -/
structure XC (X : World → (Nat → Tag) → Nat → Nat → MQ → Prop) (B : Int) : Prop where
  step : ∀ {S : Tag → Prop} {w w' : World} {T T' : Nat → Tag} {i b : Nat} {m : MQ}, X w T i b m → Step S w T w' T' → (∀ t, XT i t → ¬ S t) → X w' T' i b m
  opn : ∀ (c : Conf) (i : Nat) (w : World) (T : Nat → Tag), Calls Tryz.prog 25 #[.agg c.cells, .string ⟨#[]⟩] w fun e w' => (goodC c = false ∧ e = .returned (.tuple #[.pointer none, .int .i64 1]) ∧ Below w.heap.size w w') ∨
      (goodC c = true ∧ ∃ b T', e = .returned (.tuple #[.pointer (some ⟨b, 0, none⟩), .int .i64 0]) ∧ Step (XT i) w T w' T' ∧ X w' T' i b ⟨c, [], 0, [], 0, 0⟩)
  log : ∀ (i b : Nat) (m : MQ) (w : World) (T : Nat → Tag), X w T i b m → m.Fit B → Calls Tryz.prog 26 #[.pointer (some ⟨b, 0, none⟩)] w fun e w' => ∃ s, e = .returned (.string s) ∧ ∃ T', Step (XT i) w T w' T' ∧ X w' T' i b m
  enq : ∀ (i b : Nat) (m : MQ) (s : ByteArray) (w : World) (T : Nat → Tag), X w T i b m → m.Fit B → Calls Tryz.prog 14 #[.pointer (some ⟨b, 0, none⟩), .string s] w fun e w' =>
      e = .returned (.tuple #[.int .i64 (bif decide (menqE m s = 0) then (m.bodies.length : Int) else 0), .int .i64 (menqE m s)]) ∧ ∃ T', Step (XT i) w T w' T' ∧ X w' T' i b (menqM m s)
  grp : ∀ (i b : Nat) (m : MQ) (s : ByteArray) (fr : Int) (w : World) (T : Nat → Tag), X w T i b m → m.Fit B → Calls Tryz.prog 74 #[.pointer (some ⟨b, 0, none⟩), .string s, .int .i64 fr] w fun e w' =>
      e = .returned (.int .i64 (mgrpE m s fr)) ∧ ∃ T', Step (XT i) w T w' T' ∧ X w' T' i b (mgrpM m s fr)
  recv : ∀ (i b : Nat) (m : MQ) (s : ByteArray) (n : Int) (t : Tag) (w : World) (T : Nat → Tag), X w T i b m → m.Fit B → Calls Tryz.prog 30 #[.pointer (some ⟨b, 0, none⟩), .string s, .int .i64 n] w fun e w' =>
      ∃ ao cap, e = .returned (.tuple #[.slice ao (recvL m s n).length cap, .int .i64 (recvE m s n)]) ∧ ∃ T', Step (XT i) w T w' T' ∧ X w' T' i b (recvM m s n) ∧ Row w' T' t 82 3 (.slice ao (recvL m s n).length cap) (recvL m s n).length (dlVals (recvL m s n))
  ack : ∀ (i b : Nat) (m : MQ) (s : ByteArray) (off tr : Int) (w : World) (T : Nat → Tag), X w T i b m → m.Fit B → Calls Tryz.prog 59 #[.pointer (some ⟨b, 0, none⟩), .string s, .int .i64 off, .int .i64 tr] w fun e w' =>
      e = .returned (.int .i64 (leasedE m s off tr)) ∧ ∃ T', Step (XT i) w T w' T' ∧ X w' T' i b (ackM m s off tr)
  nack : ∀ (i b : Nat) (m : MQ) (s : ByteArray) (off tr d : Int) (w : World) (T : Nat → Tag), X w T i b m → m.Fit B → Calls Tryz.prog 108 #[.pointer (some ⟨b, 0, none⟩), .string s, .int .i64 off, .int .i64 tr, .int .i64 d] w fun e w' =>
      e = .returned (.int .i64 (rangedE m s off tr d 0)) ∧ ∃ T', Step (XT i) w T w' T' ∧ X w' T' i b (nackM m s off tr d)
  ext : ∀ (i b : Nat) (m : MQ) (s : ByteArray) (off tr d : Int) (w : World) (T : Nat → Tag), X w T i b m → m.Fit B → Calls Tryz.prog 114 #[.pointer (some ⟨b, 0, none⟩), .string s, .int .i64 off, .int .i64 tr, .int .i64 d] w fun e w' =>
      e = .returned (.int .i64 (rangedE m s off tr d 1)) ∧ ∃ T', Step (XT i) w T w' T' ∧ X w' T' i b (extendM m s off tr d)
  tick : ∀ (i b : Nat) (m : MQ) (d : Int) (w : World) (T : Nat → Tag), X w T i b m → m.Fit B → Calls Tryz.prog 55 #[.pointer (some ⟨b, 0, none⟩), .int .i64 d] w fun e w' =>
      e = .returned (.int .i64 (tickE d)) ∧ ∃ T', Step (XT i) w T w' T' ∧ X w' T' i b (tickM m d)
  done : ∀ (i b : Nat) (m : MQ) (s : ByteArray) (t : Tag) (w : World) (T : Nat → Tag), X w T i b m → m.Fit B → Calls Tryz.prog 28 #[.pointer (some ⟨b, 0, none⟩), .string s] w fun e w' =>
      ∃ ao cap, e = .returned (.tuple #[.slice ao (doneL m s).length cap, .int .i64 (doneE m s)]) ∧ ∃ T', Step (XT i) w T w' T' ∧ X w' T' i b m ∧ Row w' T' t 69 2 (.slice ao (doneL m s).length cap) (doneL m s).length (pairVals (doneL m s))
  dead : ∀ (i b : Nat) (m : MQ) (s : ByteArray) (t : Tag) (w : World) (T : Nat → Tag), X w T i b m → m.Fit B → Calls Tryz.prog 29 #[.pointer (some ⟨b, 0, none⟩), .string s] w fun e w' =>
      ∃ ao cap, e = .returned (.tuple #[.slice ao (deadL m s).length cap, .int .i64 (doneE m s)]) ∧ ∃ T', Step (XT i) w T w' T' ∧ X w' T' i b m ∧ Row w' T' t 82 3 (.slice ao (deadL m s).length cap) (deadL m s).length (dlVals (deadL m s))
  span : ∀ (i b : Nat) (m : MQ) (w : World) (T : Nat → Tag), X w T i b m → m.Fit B → Calls Tryz.prog 24 #[.pointer (some ⟨b, 0, none⟩)] w fun e w' =>
      e = .returned (.agg #[.int .i64 m.floor, .int .i64 m.bodies.length]) ∧ ∃ T', Step (XT i) w T w' T' ∧ X w' T' i b m
  ret : ∀ (i b : Nat) (m : MQ) (w : World) (T : Nat → Tag), X w T i b m → m.Fit B → Calls Tryz.prog 60 #[.pointer (some ⟨b, 0, none⟩)] w fun e w' =>
      e = .returned (.int .i64 (retainN m)) ∧ ∃ T', Step (XT i) w T w' T' ∧ X w' T' i b (retainM m)

/-- The pair of number i, in block p: a queue and the document's, which are the same. -/
def PairT (X : World → (Nat → Tag) → Nat → Nat → MQ → Prop) (B : Int) (w : World) (T : Nat → Tag) (i p : Nat) : Prop :=
  ∃ (bx yb : Nat) (m : MQ) (vs : Value) (lg : ByteArray), Blk w T (.pair i) p #[.pointer (some ⟨bx, 0, none⟩), .pointer (some ⟨yb, 0, none⟩), .int .i64 m.c.l, .int .i64 m.c.d, .int .i64 m.c.s, .int .i64 m.c.k, vs, .string lg] 41 ∧
    X w T i bx m ∧ YQ w T i yb m.rq ∧ m.Fit B

theorem PairT.step {X : World → (Nat → Tag) → Nat → Nat → MQ → Prop} {B B' : Int} (hX : XC X B') {S : Tag → Prop} {w w' : World} {T T' : Nat → Tag} {i p : Nat} (h : PairT X B w T i p) (hs : Step S w T w' T') (h1 : ¬ S (.pair i)) (h2 : ∀ t, XT i t → ¬ S t) (h3 : ∀ r k, ¬ S (.y i r k)) : PairT X B w' T' i p := by
  obtain ⟨bx, yb, m, vs, lg, hB, hx, hy, hf⟩ := h
  exact ⟨bx, yb, m, vs, lg, hB.step hs h1, hX.step hx hs h2, hy.step hs h3, hf⟩

/-- the blocks of both queues of number i -/
def ST (i : Nat) (t : Tag) : Prop := XT i t ∨ YT i t

attribute [local go_sem] over_cell

set_option maxRecDepth 100000 in
set_option maxHeartbeats 4000000 in
/-- try answers some number and changes nothing -/
theorem try_any (i p yb : Nat) (m : MQ) (cs : Array Value) (kind qu : Int) (nm bd : ByteArray) (n tr ms : Int) (yes : Bool) (w : World) (T : Nat → Tag) (hB : Blk w T (.pair i) p cs 41) (hc : cs[1]? = some (.pointer (some ⟨yb, 0, none⟩))) (hy : YQ w T i yb m.rq) (hok : m.Ok) :
    Calls Tryz.prog 111 #[.pointer (some ⟨p, 0, none⟩), .agg (opCells kind qu nm bd n tr ms yes)] w fun e w' => (∃ t : Int, e = .returned (.int .i64 t)) ∧ Below w.heap.size w w' := by
  have lp := hB.lt
  have c1 := hB.cell hc
  have ob := heap_alloc_new w (.cells (opCells kind qu nm bd n tr ms yes) 46)
  have hb0 : Below w.heap.size w (w.alloc (.cells (opCells kind qu nm bd n tr ms yes) 46)) := (Below.refl _ _).alloc (Nat.le_refl _) _
  have lo : w.heap.size < (w.alloc (.cells (opCells kind qu nm bd n tr ms yes) 46)).heap.size := by simp
  have hO : Blk (w.alloc (.cells (opCells kind qu nm bd n tr ms yes) 46)) (retag T w.heap.size .free) .free w.heap.size (opCells kind qu nm bd n tr ms yes) 46 := blk_new w T _ 46 .free
  have o2 := hO.cell (j := 2) rfl
  have o4 := hO.cell (j := 4) rfl
  have o5 := hO.cell (j := 5) rfl
  have o7 := hO.cell (j := 7) rfl
  simp only [List.getElem_toArray, List.getElem_cons_succ, List.getElem_cons_zero] at o2 o4 o5 o7
  clear hO ob
  cases yes with
  | true =>
    go_enter Tryz.func111, Tryz.ntmps111
    go_wp2
    go_ret
    exact ⟨⟨tr, rfl⟩, hb0⟩
  | false =>
    obtain ⟨vG, c6⟩ : ∃ vG, w.cell? ⟨yb, 6, none⟩ = some vG ∧ ∃ go gc, vG = .slice go m.groups.length gc ∧ (0 < m.groups.length → ∃ gb, go = some ⟨gb, 0, none⟩) := by
      obtain ⟨_, _, _, vB, vG, vi, vd, hB, hR, hG, hI⟩ := hy
      have hgl : m.rq.groups.length = m.groups.length := by simp [MQ.rq]
      rw [hgl] at hG
      obtain ⟨go, gc, rfl⟩ := row_form hG
      refine ⟨_, hB.cell (j := 6) rfl, go, gc, rfl, fun h => ?_⟩
      obtain ⟨gb, gc', e⟩ := row_some hG h
      cases e
      exact ⟨gb, rfl⟩
    obtain ⟨c6, go, gc, rfl, hgo⟩ := c6
    have ly : yb < w.heap.size := by
      obtain ⟨_, _, _, vB, vG, vi, vd, hB, _⟩ := hy
      exact hB.lt
    have h6 : m.groups.length ≤ 6 := by
      have := hy.few
      simpa [MQ.rq] using this
    go_enter Tryz.func111, Tryz.ntmps111
    go_wp2
    generalize w.alloc (.cells (opCells kind qu nm bd n tr ms false) 46) = w0 at *
    go_loopw [5] (fun u wr => ∃ k : Nat, k ≤ m.groups.length ∧ u = .int .i64 k ∧ Below w0.heap.size w0 wr) (fun u _ => m.groups.length - (intOf u).toNat)
    case atStart => exact ⟨0, Nat.zero_le _, rfl, Below.refl _ _⟩
    case round =>
      obtain ⟨k, hk, rfl, hb⟩ := hrel
      have hbw := hb0.trans (hb.mono hb0.size)
      have e1 := (hbw.cell (p := ⟨p, 1, none⟩) lp).trans c1
      have e6 := (hbw.cell (p := ⟨yb, 6, none⟩) ly).trans c6
      have q2 := (hb.cell (p := ⟨w.heap.size, 2, none⟩) lo).trans o2
      have q4 := (hb.cell (p := ⟨w.heap.size, 4, none⟩) lo).trans o4
      have q5 := (hb.cell (p := ⟨w.heap.size, 5, none⟩) lo).trans o5
      by_cases hlt : k < m.groups.length
      · obtain ⟨g, hg⟩ : ∃ g, m.groups[k]? = some g := ⟨_, List.getElem?_eq_getElem hlt⟩
        obtain ⟨gb, rfl⟩ := hgo (by omega)
        obtain ⟨io, ic, dO, dc, bo, bc, L⟩ := hy.look hg c6
        have n4 := L.n400
        have d0 : w.cell? ⟨gb, k * 4, none⟩ = some (.string g.name) := by
          obtain ⟨_, _, _, vB, vG, vi, vd, hB, hR, hG, hI⟩ := hy
          have hgl : m.rq.groups.length = m.groups.length := by simp [MQ.rq]
          rw [hgl] at hG
          have c6' := hB.cell (j := 6) rfl
          simp only [List.getElem_toArray, List.getElem_cons_succ, List.getElem_cons_zero] at c6'
          rw [c6] at c6'
          cases c6'
          exact hG.cell (groupCells_at m.rq.groups vi vd k g.rg (rq_group hg)).1
        have f0 := (hbw.cell (p := ⟨gb, k * 4, none⟩) L.lg).trans d0
        have f2 := (hbw.cell (p := ⟨gb, k * 4 + 2, none⟩) L.lg).trans L.d2
        have hz := hbw.size
        have hz0 := hb.size
        have mp : p < wr.heap.size := by omega
        have my : yb < wr.heap.size := by omega
        have mg : gb < wr.heap.size := by have := L.lg; omega
        have mo : w.heap.size < wr.heap.size := by omega
        by_cases hs : g.name = nm
        · have hq : (g.name.toList == nm.toList) = true := by rw [strEq]; simp [hs]
          by_cases hn0 : 0 ≤ n
          · by_cases hn1 : n < m.bodies.length
            · obtain ⟨a, rfl⟩ : ∃ a : Nat, n = a := ⟨n.toNat, by omega⟩
              have ha : a < m.bodies.length := by omega
              obtain ⟨x, hx⟩ : ∃ x, g.items[a]? = some x := ⟨_, List.getElem?_eq_getElem (by rw [hok.len g (List.mem_of_getElem? hg)]; exact ha)⟩
              have hit := L.items
              obtain ⟨gi, ic', e⟩ := row_some hit (by omega)
              cases e
              have t0 := (hbw.cell (p := ⟨gi, a * 4, none⟩) hit.lt).trans (hit.cell (itVals_at g.items a x hx).1)
              have mi : gi < wr.heap.size := by have := hit.lt; omega
              clear L hit hB hy
              go_wp2_with fail
              refine wp_region_over (by kernel_rfl) (by kernel_rfl) ?_
              repeat (go_big_quiet_step (fail))
              refine wpQuiet_nil ?_
              rintro _ ⟨x5, rfl⟩
              have hov := hb.trans ((over_below wr x5).mono hb.size)
              have g5 := over_below wr x5
              replace e1 := (g5.cell (p := ⟨p, 1, none⟩) mp).trans e1
              replace e6 := (g5.cell (p := ⟨yb, 6, none⟩) my).trans e6
              replace f2 := (g5.cell (p := ⟨gb, k * 4 + 2, none⟩) mg).trans f2
              replace q4 := (g5.cell (p := ⟨w.heap.size, 4, none⟩) mo).trans q4
              replace t0 := (g5.cell (p := ⟨gi, a * 4, none⟩) mi).trans t0
              have s5 := g5.size
              replace mp := Nat.lt_of_lt_of_le mp s5
              replace my := Nat.lt_of_lt_of_le my s5
              replace mg := Nat.lt_of_lt_of_le mg s5
              replace mo := Nat.lt_of_lt_of_le mo s5
              replace mi := Nat.lt_of_lt_of_le mi s5
              clear g5 s5 q2 q5 f0
              generalize over wr x5 = w5 at *
              go_wp2_with fail
              refine wp_region_over (by kernel_rfl) (by kernel_rfl) ?_
              repeat (go_big_quiet_step (fail))
              refine wpQuiet_nil ?_
              rintro _ ⟨x6, rfl⟩
              have hov2 := hov.trans ((over_below w5 x6).mono hov.size)
              go_wp2
              go_ret
              exact ⟨⟨_, rfl⟩, hb0.trans (hov2.mono hb0.size)⟩
            · have hn1' : decide (n < (m.bodies.length : Int)) = false := by simp; omega
              clear L hB hy
              go_wp2_with fail
              refine wp_region_over (by kernel_rfl) (by kernel_rfl) ?_
              repeat (go_big_quiet_step (fail))
              refine wpQuiet_nil ?_
              rintro _ ⟨x5, rfl⟩
              have hov := hb.trans ((over_below wr x5).mono hb.size)
              generalize over wr x5 = w5 at *
              go_wp2
              exact ⟨⟨k + 1, by omega, by simp, hov⟩, by simp [intOf]; omega⟩
          · have hn0' : decide (0 ≤ n) = false := by simp; omega
            clear L hB hy
            go_wp2_with fail
            refine wp_region_over (by kernel_rfl) (by kernel_rfl) ?_
            repeat (go_big_quiet_step (fail))
            refine wpQuiet_nil ?_
            rintro _ ⟨x5, rfl⟩
            have hov := hb.trans ((over_below wr x5).mono hb.size)
            generalize over wr x5 = w5 at *
            go_wp2
            exact ⟨⟨k + 1, by omega, by simp, hov⟩, by simp [intOf]; omega⟩
        · have hq : (g.name.toList == nm.toList) = false := by rw [strEq]; simp [hs]
          clear L hB hy
          go_wp2_with fail
          refine wp_region_over (by kernel_rfl) (by kernel_rfl) ?_
          repeat (go_big_quiet_step (fail))
          refine wpQuiet_nil ?_
          rintro _ ⟨x5, rfl⟩
          have hov := hb.trans ((over_below wr x5).mono hb.size)
          generalize over wr x5 = w5 at *
          go_wp2
          exact ⟨⟨k + 1, by omega, by simp, hov⟩, by simp [intOf]; omega⟩
      · go_wp2
        go_ret
        exact ⟨⟨tr, rfl⟩, hbw⟩

end Go.Proofs.YtockkceclkcgbaaGreatDoor

/- The law's calls over a queue that goes from X to Z: what a queue must keep; a pair of queues with its stands and its log shown. -/
namespace Go.Proofs.YtockkceclkcgbaaGreatDoor
open Go.RowKit

/-- What a queue must keep: X tells how it lies in memory ahead of a call, Z behind it. -/
structure XZ (X Z : World → (Nat → Tag) → Nat → Nat → MQ → Prop) (B : Int) : Prop where
  stepZ : ∀ {S : Tag → Prop} {w w' : World} {T T' : Nat → Tag} {i b : Nat} {m : MQ}, Z w T i b m → Step S w T w' T' → (∀ t, XT i t → ¬ S t) → Z w' T' i b m
  sub : ∀ {w : World} {T : Nat → Tag} {i b : Nat} {m : MQ}, X w T i b m → Z w T i b m
  step : ∀ {S : Tag → Prop} {w w' : World} {T T' : Nat → Tag} {i b : Nat} {m : MQ}, X w T i b m → Step S w T w' T' → (∀ t, XT i t → ¬ S t) → X w' T' i b m
  enq : ∀ (i b : Nat) (m : MQ) (s : ByteArray) (w : World) (T : Nat → Tag), X w T i b m → m.Fit B → Calls Tryz.prog 14 #[.pointer (some ⟨b, 0, none⟩), .string s] w fun e w' =>
      e = .returned (.tuple #[.int .i64 (bif decide (menqE m s = 0) then (m.bodies.length : Int) else 0), .int .i64 (menqE m s)]) ∧ ∃ T', Step (XT i) w T w' T' ∧ Z w' T' i b (menqM m s)
  grp : ∀ (i b : Nat) (m : MQ) (s : ByteArray) (fr : Int) (w : World) (T : Nat → Tag), X w T i b m → m.Fit B → Calls Tryz.prog 74 #[.pointer (some ⟨b, 0, none⟩), .string s, .int .i64 fr] w fun e w' =>
      e = .returned (.int .i64 (mgrpE m s fr)) ∧ ∃ T', Step (XT i) w T w' T' ∧ Z w' T' i b (mgrpM m s fr)
  recv : ∀ (i b : Nat) (m : MQ) (s : ByteArray) (n : Int) (t : Tag) (w : World) (T : Nat → Tag), X w T i b m → m.Fit B → Calls Tryz.prog 30 #[.pointer (some ⟨b, 0, none⟩), .string s, .int .i64 n] w fun e w' =>
      ∃ ao cap, e = .returned (.tuple #[.slice ao (recvL m s n).length cap, .int .i64 (recvE m s n)]) ∧ ∃ T', Step (XT i) w T w' T' ∧ Z w' T' i b (recvM m s n) ∧ Row w' T' t 82 3 (.slice ao (recvL m s n).length cap) (recvL m s n).length (dlVals (recvL m s n))
  ack : ∀ (i b : Nat) (m : MQ) (s : ByteArray) (off tr : Int) (w : World) (T : Nat → Tag), X w T i b m → m.Fit B → Calls Tryz.prog 59 #[.pointer (some ⟨b, 0, none⟩), .string s, .int .i64 off, .int .i64 tr] w fun e w' =>
      e = .returned (.int .i64 (leasedE m s off tr)) ∧ ∃ T', Step (XT i) w T w' T' ∧ Z w' T' i b (ackM m s off tr)
  nack : ∀ (i b : Nat) (m : MQ) (s : ByteArray) (off tr d : Int) (w : World) (T : Nat → Tag), X w T i b m → m.Fit B → Calls Tryz.prog 108 #[.pointer (some ⟨b, 0, none⟩), .string s, .int .i64 off, .int .i64 tr, .int .i64 d] w fun e w' =>
      e = .returned (.int .i64 (rangedE m s off tr d 0)) ∧ ∃ T', Step (XT i) w T w' T' ∧ Z w' T' i b (nackM m s off tr d)
  ext : ∀ (i b : Nat) (m : MQ) (s : ByteArray) (off tr d : Int) (w : World) (T : Nat → Tag), X w T i b m → m.Fit B → Calls Tryz.prog 114 #[.pointer (some ⟨b, 0, none⟩), .string s, .int .i64 off, .int .i64 tr, .int .i64 d] w fun e w' =>
      e = .returned (.int .i64 (rangedE m s off tr d 1)) ∧ ∃ T', Step (XT i) w T w' T' ∧ Z w' T' i b (extendM m s off tr d)
  tick : ∀ (i b : Nat) (m : MQ) (d : Int) (w : World) (T : Nat → Tag), X w T i b m → m.Fit B → Calls Tryz.prog 55 #[.pointer (some ⟨b, 0, none⟩), .int .i64 d] w fun e w' =>
      e = .returned (.int .i64 (tickE d)) ∧ ∃ T', Step (XT i) w T w' T' ∧ Z w' T' i b (tickM m d)
  done : ∀ (i b : Nat) (m : MQ) (s : ByteArray) (t : Tag) (w : World) (T : Nat → Tag), X w T i b m → m.Fit B → Calls Tryz.prog 28 #[.pointer (some ⟨b, 0, none⟩), .string s] w fun e w' =>
      ∃ ao cap, e = .returned (.tuple #[.slice ao (doneL m s).length cap, .int .i64 (doneE m s)]) ∧ ∃ T', Step (XT i) w T w' T' ∧ X w' T' i b m ∧ Row w' T' t 69 2 (.slice ao (doneL m s).length cap) (doneL m s).length (pairVals (doneL m s))
  dead : ∀ (i b : Nat) (m : MQ) (s : ByteArray) (t : Tag) (w : World) (T : Nat → Tag), X w T i b m → m.Fit B → Calls Tryz.prog 29 #[.pointer (some ⟨b, 0, none⟩), .string s] w fun e w' =>
      ∃ ao cap, e = .returned (.tuple #[.slice ao (deadL m s).length cap, .int .i64 (doneE m s)]) ∧ ∃ T', Step (XT i) w T w' T' ∧ X w' T' i b m ∧ Row w' T' t 82 3 (.slice ao (deadL m s).length cap) (deadL m s).length (dlVals (deadL m s))
  span : ∀ (i b : Nat) (m : MQ) (w : World) (T : Nat → Tag), X w T i b m → m.Fit B → Calls Tryz.prog 24 #[.pointer (some ⟨b, 0, none⟩)] w fun e w' =>
      e = .returned (.agg #[.int .i64 m.floor, .int .i64 m.bodies.length]) ∧ ∃ T', Step (XT i) w T w' T' ∧ X w' T' i b m
  ret : ∀ (i b : Nat) (m : MQ) (w : World) (T : Nat → Tag), X w T i b m → m.Fit B → Calls Tryz.prog 60 #[.pointer (some ⟨b, 0, none⟩)] w fun e w' =>
      e = .returned (.int .i64 (retainN m)) ∧ ∃ T', Step (XT i) w T w' T' ∧ Z w' T' i b (retainM m)

/-- The pair of number i, in block p: a queue and the document's, which are the same; its stands vs, its log lg. -/
def PairZ (X : World → (Nat → Tag) → Nat → Nat → MQ → Prop) (B : Int) (vs : Value) (lg : ByteArray) (w : World) (T : Nat → Tag) (i p : Nat) : Prop :=
  ∃ (bx yb : Nat) (m : MQ), Blk w T (.pair i) p #[.pointer (some ⟨bx, 0, none⟩), .pointer (some ⟨yb, 0, none⟩), .int .i64 m.c.l, .int .i64 m.c.d, .int .i64 m.c.s, .int .i64 m.c.k, vs, .string lg] 41 ∧
    X w T i bx m ∧ YQ w T i yb m.rq ∧ m.Fit B

theorem PairZ.step {X Z : World → (Nat → Tag) → Nat → Nat → MQ → Prop} {vs : Value} {lg : ByteArray} {B B' : Int} (hX : XZ X Z B') {S : Tag → Prop} {w w' : World} {T T' : Nat → Tag} {i p : Nat} (h : PairZ X B vs lg w T i p) (hs : Step S w T w' T') (h1 : ¬ S (.pair i)) (h2 : ∀ t, XT i t → ¬ S t) (h3 : ∀ r k, ¬ S (.y i r k)) : PairZ X B vs lg w' T' i p := by
  obtain ⟨bx, yb, m, hB, hx, hy, hf⟩ := h
  exact ⟨bx, yb, m, hB.step hs h1, hX.step hx hs h2, hy.step hs h3, hf⟩
theorem PairZ.sub {X Z : World → (Nat → Tag) → Nat → Nat → MQ → Prop} {vs : Value} {lg : ByteArray} {B B' : Int} (hX : XZ X Z B') {w : World} {T : Nat → Tag} {i p : Nat} (h : PairZ X B vs lg w T i p) : PairZ Z B vs lg w T i p := by
  obtain ⟨bx, yb, m, hB, hx, hy, hf⟩ := h
  exact ⟨bx, yb, m, hB, hX.sub hx, hy, hf⟩
theorem PairZ.mono {X : World → (Nat → Tag) → Nat → Nat → MQ → Prop} {vs : Value} {lg : ByteArray} {B B' : Int} {w : World} {T : Nat → Tag} {i p : Nat} (h : PairZ X B vs lg w T i p) (hB : B ≤ B') : PairZ X B' vs lg w T i p := by
  obtain ⟨bx, yb, m, h1, h2, h3, h4⟩ := h
  exact ⟨bx, yb, m, h1, h2, h3, h4.mono hB⟩

end Go.Proofs.YtockkceclkcgbaaGreatDoor

/- The contract of told at Done: both queues tell the same; the lists that came out are kept. -/
namespace Go.Proofs.YtockkceclkcgbaaGreatDoor
open Go.RowKit

attribute [local go_sem] over_cell

/-- the tag of a list that the document's queue hands out -/
abbrev Tag.out : Tag := ⟨13, 0, 0, 0⟩
theorem doneL_len (m : MQ) (s : ByteArray) (hok : m.Ok) (hn : m.bodies.length ≤ 400) : (doneL m s).length ≤ 400 := by
  unfold doneL
  cases ha : m.at s with
  | none => simp
  | some k =>
    simp only
    cases hg : m.groups[k]? with
    | none => simp
    | some g =>
      simp only
      have := hok.len g (List.mem_of_getElem? hg)
      exact Nat.le_trans (doneTo_len _ _) (by omega)

/-- what Done or Dead of both queues may write -/
def ToldS (i c q : Nat) (s : Tag) : Prop := ST i s ∨ KeepS c q s ∨ KeepS c (q + 1) s ∨ s = .out

/-- The pair of number i, the document's queue told. -/
def PairM (X : World → (Nat → Tag) → Nat → Nat → MQ → Prop) (B : Int) (vs : Value) (lg : ByteArray) (m : MQ) (w : World) (T : Nat → Tag) (i p : Nat) : Prop :=
  ∃ (bx yb : Nat), Blk w T (.pair i) p #[.pointer (some ⟨bx, 0, none⟩), .pointer (some ⟨yb, 0, none⟩), .int .i64 m.c.l, .int .i64 m.c.d, .int .i64 m.c.s, .int .i64 m.c.k, vs, .string lg] 41 ∧
    X w T i bx m ∧ YQ w T i yb m.rq ∧ m.Fit B
theorem pairM_of {X : World → (Nat → Tag) → Nat → Nat → MQ → Prop} {B : Int} {vs : Value} {lg : ByteArray} {w : World} {T : Nat → Tag} {i p : Nat} (h : PairZ X B vs lg w T i p) : ∃ m, PairM X B vs lg m w T i p := by
  obtain ⟨bx, yb, m, h⟩ := h
  exact ⟨m, bx, yb, h⟩
theorem PairM.pair {X : World → (Nat → Tag) → Nat → Nat → MQ → Prop} {B : Int} {vs : Value} {lg : ByteArray} {m : MQ} {w : World} {T : Nat → Tag} {i p : Nat} (h : PairM X B vs lg m w T i p) : PairZ X B vs lg w T i p := by
  obtain ⟨bx, yb, h⟩ := h
  exact ⟨bx, yb, m, h⟩

set_option maxRecDepth 100000 in
set_option maxHeartbeats 4000000 in
theorem told_doneM {X Z : World → (Nat → Tag) → Nat → Nat → MQ → Prop} {vs : Value} {lg : ByteArray} {B Bm : Int} (hX : XZ X Z Bm) (hle : B ≤ Bm) (i p wb : Nat) (cs : Array Value) (vr : Value) (q : Nat) (s : ByteArray) (m : MQ) (w : World) (T : Nat → Tag)
    (hp : PairM X B vs lg m w T i p) (hW : Blk w T .world wb cs 33) (hc : cs[9]? = some vr) (hR : Bk w T 9 74 2 (fun q => patOf (markRV q)) vr q) (hq : q ≤ 900000000) :
    Calls Tryz.prog 17 #[.pointer (some ⟨wb, 0, none⟩), .pointer (some ⟨p, 0, none⟩), .int .i64 9, .string s] w fun e w' => e = .returned (.bool true) ∧
      ∃ T' vr', Step (ToldS i 9 q) w T w' T' ∧ PairM X B vs lg m w' T' i p ∧ Blk w' T' .world wb (cs.setIfInBounds 9 vr') 33 ∧ Bk w' T' 9 74 2 (fun q => patOf (markRV q)) vr' (q + 2) := by
  obtain ⟨bx, yb, hB, hx, hy, hf⟩ := hp
  have hn4 : m.bodies.length ≤ 400 := by have := hy.small; simpa [MQ.rq] using this
  have hlen := doneL_len m s hf.ok hn4
  have l0 := hB.lt
  have c0 := hB.cell (j := 0) rfl
  simp only [List.getElem_toArray, List.getElem_cons_zero] at c0
  go_enter Tryz.func17, Tryz.ntmps17
  go_wp2_with fail
  refine (hX.done i bx m s ⟨10, q, 0, 0⟩ _ _ hx (hf.mono hle)).mono ?_
  rintro e w1 ⟨ao, ac, rfl, T1, hs1, hx1, hA1⟩
  replace hB := hB.step hs1 (by simp [XT])
  replace hy := hy.step hs1 (by simp [XT])
  replace hW := hW.step hs1 (by simp [XT])
  replace hR := hR.step hs1 (by simp [XT]) (fun _ _ => by simp [XT])
  have l1 := hB.lt
  have c1 := hB.cell (j := 0) rfl
  simp only [List.getElem_toArray, List.getElem_cons_zero] at c1
  clear c0 l0 hx
  go_wp2_with fail
  refine (hX.done i bx m s ⟨10, q + 1, 0, 0⟩ _ _ hx1 (hf.mono hle)).mono ?_
  rintro e w2 ⟨co, cc, rfl, T2, hs2, hx2, hC2⟩
  replace hB := hB.step hs2 (by simp [XT])
  replace hy := hy.step hs2 (by simp [XT])
  replace hW := hW.step hs2 (by simp [XT])
  replace hR := hR.step hs2 (by simp [XT]) (fun _ _ => by simp [XT])
  replace hA1 := hA1.step hs2 (by simp [XT])
  have l2 := hB.lt
  have c2 := hB.cell (j := 1) rfl
  simp only [List.getElem_toArray, List.getElem_cons_succ, List.getElem_cons_zero] at c2
  clear c1 l1 hx1
  go_wp2_with fail
  refine (ydone_any i yb m s _ T2 hy hf.ok).mono ?_
  rintro e w3 ⟨bo, bc, rfl, hb3, hO3⟩
  obtain ⟨T3, hs3, hb⟩ := own_row hb3 hO3 T2 .out
  replace hB := hB.step hs3 (fun h => h)
  replace hy := hy.step hs3 (fun _ _ h => h)
  replace hW := hW.step hs3 (fun h => h)
  replace hR := hR.step hs3 (fun h => h) (fun _ _ h => h)
  replace hA1 := hA1.step hs3 (fun h => h)
  replace hC2 := hC2.step hs3 (fun h => h)
  replace hx2 := hX.step hx2 hs3 (fun _ _ h => h)
  clear c2 l2 hO3 hb3
  go_wp2_with fail
  refine (sameR_any (doneL m s) _ _ T3 T3 _ _ _ hA1 hb (by omega)).mono ?_
  rintro e w4 ⟨rfl, hb4⟩
  have s4 := step_below (fun _ => False) T3 hb4
  replace hB := hB.step s4 (fun h => h)
  replace hy := hy.step s4 (fun _ _ h => h)
  replace hW := hW.step s4 (fun h => h)
  replace hR := hR.step s4 (fun h => h) (fun _ _ h => h)
  replace hA1 := hA1.step s4 (fun h => h)
  replace hC2 := hC2.step s4 (fun h => h)
  replace hb := hb.step s4 (fun h => h)
  replace hx2 := hX.step hx2 s4 (fun _ _ h => h)
  go_wp2_with fail
  refine (sameR_any (doneL m s) _ _ T3 T3 _ _ _ hC2 hb (by omega)).mono ?_
  rintro e w5 ⟨rfl, hb5⟩
  have s5 := step_below (fun _ => False) T3 hb5
  replace hB := hB.step s5 (fun h => h)
  replace hy := hy.step s5 (fun _ _ h => h)
  replace hW := hW.step s5 (fun h => h)
  replace hR := hR.step s5 (fun h => h) (fun _ _ h => h)
  replace hA1 := hA1.step s5 (fun h => h)
  replace hC2 := hC2.step s5 (fun h => h)
  replace hx2 := hX.step hx2 s5 (fun _ _ h => h)
  go_wp2_with fail
  refine (keepR_any w5 T3 wb cs q _ vr _ _ hW hc hR hA1 (by omega) (by omega)).mono ?_
  rintro e w6 ⟨rfl, T6, v6, hs6, hW6, hR6⟩
  have nx : ∀ q : Nat, ∀ t, XT i t → ¬ KeepS 9 q t := by
    rintro q t h1 (rfl | rfl | rfl)
    · exact absurd h1.1 (by simp)
    · exact absurd h1.1 (by simp)
    · exact absurd h1.1 (by simp)
  replace hB := hB.step hs6 (by simp [KeepS])
  replace hy := hy.step hs6 (by simp [KeepS])
  replace hC2 := hC2.step hs6 (by simp [KeepS])
  replace hx2 := hX.step hx2 hs6 (nx q)
  have hsz : 9 < cs.size := (Array.getElem?_eq_some_iff.1 hc).1
  go_wp2_with fail
  refine (keepR_any w6 T6 wb (cs.setIfInBounds 9 v6) (q + 1) _ v6 _ _ hW6 (by rw [Array.getElem?_setIfInBounds_self_of_lt hsz]) hR6 hC2 (by omega) (by omega)).mono ?_
  rintro e w7 ⟨rfl, T7, v7, hs7, hW7, hR7⟩
  go_wp2
  go_ret
  rw [Array.setIfInBounds_setIfInBounds] at hW7
  have h13 : Step (ToldS i 9 q) w T w3 T3 := ((hs1.mono (fun _ h => .inl (.inl h))).trans (hs2.mono (fun _ h => .inl (.inl h)))).trans (hs3.mono (fun _ h => h.elim))
  have h57 : Step (ToldS i 9 q) w5 T3 w7 T7 := (hs6.mono (fun _ h => .inr (.inl h))).trans (hs7.mono (fun _ h => .inr (.inr (.inl h))))
  exact ⟨by first | rfl | simp, T7, v7, (h13.trans ((s4.trans s5).mono (fun _ h => h.elim))).trans h57, ⟨bx, yb, hB.step hs7 (by simp [KeepS]), hX.step hx2 hs7 (nx (q + 1)), hy.step hs7 (by simp [KeepS]), hf⟩, hW7, hR7⟩

theorem told_done {X Z : World → (Nat → Tag) → Nat → Nat → MQ → Prop} {vs : Value} {lg : ByteArray} {B Bm : Int} (hX : XZ X Z Bm) (hle : B ≤ Bm) (i p wb : Nat) (cs : Array Value) (vr : Value) (q : Nat) (s : ByteArray) (w : World) (T : Nat → Tag)
    (hp : PairZ X B vs lg w T i p) (hW : Blk w T .world wb cs 33) (hc : cs[9]? = some vr) (hR : Bk w T 9 74 2 (fun q => patOf (markRV q)) vr q) (hq : q ≤ 900000000) :
    Calls Tryz.prog 17 #[.pointer (some ⟨wb, 0, none⟩), .pointer (some ⟨p, 0, none⟩), .int .i64 9, .string s] w fun e w' => e = .returned (.bool true) ∧
      ∃ T' vr', Step (ToldS i 9 q) w T w' T' ∧ PairZ X B vs lg w' T' i p ∧ Blk w' T' .world wb (cs.setIfInBounds 9 vr') 33 ∧ Bk w' T' 9 74 2 (fun q => patOf (markRV q)) vr' (q + 2) := by
  obtain ⟨m, hm⟩ := pairM_of hp
  refine (told_doneM hX hle i p wb cs vr q s m w T hm hW hc hR hq).mono ?_
  rintro e w' ⟨rfl, T', vr', h1, h2, h3, h4⟩
  exact ⟨rfl, T', vr', h1, h2.pair, h3, h4⟩

end Go.Proofs.YtockkceclkcgbaaGreatDoor

/- The contract of told at Dead: both queues tell the same; the lists that came out are kept. -/
namespace Go.Proofs.YtockkceclkcgbaaGreatDoor
open Go.RowKit

attribute [local go_sem] over_cell

theorem deadL_len (m : MQ) (s : ByteArray) {B : Int} (hf : m.Fit B) (hn : m.bodies.length ≤ 400) : (deadL m s).length ≤ 4000 := by
  unfold deadL
  cases ha : m.at s with
  | none => simp
  | some k =>
    simp only
    cases hg : m.groups[k]? with
    | none => simp
    | some g =>
      simp only
      have := hf.dead hn g (List.mem_of_getElem? hg)
      simpa using this

set_option maxRecDepth 100000 in
set_option maxHeartbeats 4000000 in
theorem told_dead {X Z : World → (Nat → Tag) → Nat → Nat → MQ → Prop} {vs : Value} {lg : ByteArray} {B Bm : Int} (hX : XZ X Z Bm) (hle : B ≤ Bm) (i p wb : Nat) (cs : Array Value) (vr : Value) (q : Nat) (s : ByteArray) (w : World) (T : Nat → Tag)
    (hp : PairZ X B vs lg w T i p) (hW : Blk w T .world wb cs 33) (hc : cs[10]? = some vr) (hR : Bk w T 11 77 3 (fun q => patOf (markDV q)) vr q) (hq : q ≤ 900000000) :
    Calls Tryz.prog 17 #[.pointer (some ⟨wb, 0, none⟩), .pointer (some ⟨p, 0, none⟩), .int .i64 10, .string s] w fun e w' => e = .returned (.bool true) ∧
      ∃ T' vr', Step (ToldS i 11 q) w T w' T' ∧ PairZ X B vs lg w' T' i p ∧ Blk w' T' .world wb (cs.setIfInBounds 10 vr') 33 ∧ Bk w' T' 11 77 3 (fun q => patOf (markDV q)) vr' (q + 2) := by
  obtain ⟨bx, yb, m, hB, hx, hy, hf⟩ := hp
  have hn4 : m.bodies.length ≤ 400 := by have := hy.small; simpa [MQ.rq] using this
  have hlen := deadL_len m s hf hn4
  have l0 := hB.lt
  have c0 := hB.cell (j := 0) rfl
  simp only [List.getElem_toArray, List.getElem_cons_zero] at c0
  go_enter Tryz.func17, Tryz.ntmps17
  go_wp2_with fail
  refine (hX.dead i bx m s ⟨12, q, 0, 0⟩ _ _ hx (hf.mono hle)).mono ?_
  rintro e w1 ⟨ao, ac, rfl, T1, hs1, hx1, hA1⟩
  replace hB := hB.step hs1 (by simp [XT])
  replace hy := hy.step hs1 (by simp [XT])
  replace hW := hW.step hs1 (by simp [XT])
  replace hR := hR.step hs1 (by simp [XT]) (fun _ _ => by simp [XT])
  have l1 := hB.lt
  have c1 := hB.cell (j := 0) rfl
  simp only [List.getElem_toArray, List.getElem_cons_zero] at c1
  clear c0 l0 hx
  go_wp2_with fail
  refine (hX.dead i bx m s ⟨12, q + 1, 0, 0⟩ _ _ hx1 (hf.mono hle)).mono ?_
  rintro e w2 ⟨co, cc, rfl, T2, hs2, hx2, hC2⟩
  replace hB := hB.step hs2 (by simp [XT])
  replace hy := hy.step hs2 (by simp [XT])
  replace hW := hW.step hs2 (by simp [XT])
  replace hR := hR.step hs2 (by simp [XT]) (fun _ _ => by simp [XT])
  replace hA1 := hA1.step hs2 (by simp [XT])
  have l2 := hB.lt
  have c2 := hB.cell (j := 1) rfl
  simp only [List.getElem_toArray, List.getElem_cons_succ, List.getElem_cons_zero] at c2
  clear c1 l1 hx1
  go_wp2_with fail
  refine (ydead_any i yb m s _ T2 hy hf.ok (hf.dead hn4)).mono ?_
  rintro e w3 ⟨bo, bc, rfl, hb3, hO3⟩
  obtain ⟨T3, hs3, hb⟩ := own_row hb3 hO3 T2 .out
  replace hB := hB.step hs3 (fun h => h)
  replace hy := hy.step hs3 (fun _ _ h => h)
  replace hW := hW.step hs3 (fun h => h)
  replace hR := hR.step hs3 (fun h => h) (fun _ _ h => h)
  replace hA1 := hA1.step hs3 (fun h => h)
  replace hC2 := hC2.step hs3 (fun h => h)
  replace hx2 := hX.step hx2 hs3 (fun _ _ h => h)
  clear c2 l2 hO3 hb3
  go_wp2_with fail
  refine (sameD_any (deadL m s) _ _ T3 T3 _ _ _ hA1 hb (by omega)).mono ?_
  rintro e w4 ⟨rfl, hb4⟩
  have s4 := step_below (fun _ => False) T3 hb4
  replace hB := hB.step s4 (fun h => h)
  replace hy := hy.step s4 (fun _ _ h => h)
  replace hW := hW.step s4 (fun h => h)
  replace hR := hR.step s4 (fun h => h) (fun _ _ h => h)
  replace hA1 := hA1.step s4 (fun h => h)
  replace hC2 := hC2.step s4 (fun h => h)
  replace hb := hb.step s4 (fun h => h)
  replace hx2 := hX.step hx2 s4 (fun _ _ h => h)
  go_wp2_with fail
  refine (sameD_any (deadL m s) _ _ T3 T3 _ _ _ hC2 hb (by omega)).mono ?_
  rintro e w5 ⟨rfl, hb5⟩
  have s5 := step_below (fun _ => False) T3 hb5
  replace hB := hB.step s5 (fun h => h)
  replace hy := hy.step s5 (fun _ _ h => h)
  replace hW := hW.step s5 (fun h => h)
  replace hR := hR.step s5 (fun h => h) (fun _ _ h => h)
  replace hA1 := hA1.step s5 (fun h => h)
  replace hC2 := hC2.step s5 (fun h => h)
  replace hx2 := hX.step hx2 s5 (fun _ _ h => h)
  go_wp2_with fail
  refine (keepD_any w5 T3 wb cs q _ vr _ _ hW hc hR hA1 (by omega) (by omega)).mono ?_
  rintro e w6 ⟨rfl, T6, v6, hs6, hW6, hR6⟩
  have nx : ∀ q : Nat, ∀ t, XT i t → ¬ KeepS 11 q t := by
    rintro q t h1 (rfl | rfl | rfl)
    · exact absurd h1.1 (by simp)
    · exact absurd h1.1 (by simp)
    · exact absurd h1.1 (by simp)
  replace hB := hB.step hs6 (by simp [KeepS])
  replace hy := hy.step hs6 (by simp [KeepS])
  replace hC2 := hC2.step hs6 (by simp [KeepS])
  replace hx2 := hX.step hx2 hs6 (nx q)
  have hsz : 10 < cs.size := (Array.getElem?_eq_some_iff.1 hc).1
  go_wp2_with fail
  refine (keepD_any w6 T6 wb (cs.setIfInBounds 10 v6) (q + 1) _ v6 _ _ hW6 (by rw [Array.getElem?_setIfInBounds_self_of_lt hsz]) hR6 hC2 (by omega) (by omega)).mono ?_
  rintro e w7 ⟨rfl, T7, v7, hs7, hW7, hR7⟩
  go_wp2
  go_ret
  rw [Array.setIfInBounds_setIfInBounds] at hW7
  have h13 : Step (ToldS i 11 q) w T w3 T3 := ((hs1.mono (fun _ h => .inl (.inl h))).trans (hs2.mono (fun _ h => .inl (.inl h)))).trans (hs3.mono (fun _ h => h.elim))
  have h57 : Step (ToldS i 11 q) w5 T3 w7 T7 := (hs6.mono (fun _ h => .inr (.inl h))).trans (hs7.mono (fun _ h => .inr (.inr (.inl h))))
  exact ⟨by first | rfl | simp, T7, v7, (h13.trans ((s4.trans s5).mono (fun _ h => h.elim))).trans h57, ⟨bx, yb, m, hB.step hs7 (by simp [KeepS]), hX.step hx2 hs7 (nx (q + 1)), hy.step hs7 (by simp [KeepS]), hf⟩, hW7, hR7⟩

end Go.Proofs.YtockkceclkcgbaaGreatDoor

/- The law over any queue that keeps the document's contracts: what those contracts are; a pair of queues; the contract of try. -/
import Derived.Test.YtockkceclkcgbaaGreatDoorB07
import Derived.Test.YtockkceclkcgbaaGreatDoorB02
import Derived.Test.YtockkceclkcgbaaGreatDoorB06
import Derived.Test.YtockkceclkcgbaaGreatDoorB08
import Derived.Laws.BytesArg
import Derived.Test.YtockkceclkcgbaaGreatDoorRows
import Derived.WalkKit
import Derived.WalkSpells
import Derived.WalkLawsBesides
import Derived.Test.YtockkceclkcgbaaGreatDoorB01
namespace Go.Proofs.YtockkceclkcgbaaGreatDoor
open Go.RowKit

/-- the blocks of the queue of number i -/
def XT (i : Nat) (t : Tag) : Prop := t.c = 5 ∧ t.i = i
/-- the blocks of the document's queue of number i -/
def YT (i : Nat) (t : Tag) : Prop := ∃ r j, t = .y i r j

/-- What a queue must keep: X tells how it lies in memory. -/
structure XC (X : World → (Nat → Tag) → Nat → Nat → MQ → Prop) (B : Int) : Prop where
  step : ∀ {S : Tag → Prop} {w w' : World} {T T' : Nat → Tag} {i b : Nat} {m : MQ}, X w T i b m → Step S w T w' T' → (∀ t, XT i t → ¬ S t) → X w' T' i b m
  opn : ∀ (c : Conf) (i : Nat) (w : World) (T : Nat → Tag), Calls Tryz.prog 25 #[.agg c.cells, .string ⟨#[]⟩] w fun e w' => (goodC c = false ∧ e = .returned (.tuple #[.pointer none, .int .i64 1]) ∧ Below w.heap.size w w') ∨
      (goodC c = true ∧ ∃ b T', e = .returned (.tuple #[.pointer (some ⟨b, 0, none⟩), .int .i64 0]) ∧ Step (XT i) w T w' T' ∧ X w' T' i b ⟨c, [], 0, [], 0, 0⟩)
  log : ∀ (i b : Nat) (m : MQ) (w : World) (T : Nat → Tag), X w T i b m → m.Fit B → Calls Tryz.prog 26 #[.pointer (some ⟨b, 0, none⟩)] w fun e w' => ∃ s, e = .returned (.string s) ∧ ∃ T', Step (XT i) w T w' T' ∧ X w' T' i b m
  enq : ∀ (i b : Nat) (m : MQ) (s : ByteArray) (w : World) (T : Nat → Tag), X w T i b m → m.Fit B → Calls Tryz.prog 14 #[.pointer (some ⟨b, 0, none⟩), .string s] w fun e w' =>
      e = .returned (.tuple #[.int .i64 (bif decide (menqE m s = 0) then (m.bodies.length : Int) else 0), .int .i64 (menqE m s)]) ∧ ∃ T', Step (XT i) w T w' T' ∧ X w' T' i b (menqM m s)
  grp : ∀ (i b : Nat) (m : MQ) (s : ByteArray) (fr : Int) (w : World) (T : Nat → Tag), X w T i b m → m.Fit B → Calls Tryz.prog 74 #[.pointer (some ⟨b, 0, none⟩), .string s, .int .i64 fr] w fun e w' =>
      e = .returned (.int .i64 (mgrpE m s fr)) ∧ ∃ T', Step (XT i) w T w' T' ∧ X w' T' i b (mgrpM m s fr)
  recv : ∀ (i b : Nat) (m : MQ) (s : ByteArray) (n : Int) (t : Tag) (w : World) (T : Nat → Tag), X w T i b m → m.Fit B → Calls Tryz.prog 30 #[.pointer (some ⟨b, 0, none⟩), .string s, .int .i64 n] w fun e w' =>
      ∃ ao cap, e = .returned (.tuple #[.slice ao (recvL m s n).length cap, .int .i64 (recvE m s n)]) ∧ ∃ T', Step (XT i) w T w' T' ∧ X w' T' i b (recvM m s n) ∧ Row w' T' t 82 3 (.slice ao (recvL m s n).length cap) (recvL m s n).length (dlVals (recvL m s n))
  ack : ∀ (i b : Nat) (m : MQ) (s : ByteArray) (off tr : Int) (w : World) (T : Nat → Tag), X w T i b m → m.Fit B → Calls Tryz.prog 59 #[.pointer (some ⟨b, 0, none⟩), .string s, .int .i64 off, .int .i64 tr] w fun e w' =>
      e = .returned (.int .i64 (leasedE m s off tr)) ∧ ∃ T', Step (XT i) w T w' T' ∧ X w' T' i b (ackM m s off tr)
  nack : ∀ (i b : Nat) (m : MQ) (s : ByteArray) (off tr d : Int) (w : World) (T : Nat → Tag), X w T i b m → m.Fit B → Calls Tryz.prog 108 #[.pointer (some ⟨b, 0, none⟩), .string s, .int .i64 off, .int .i64 tr, .int .i64 d] w fun e w' =>
      e = .returned (.int .i64 (rangedE m s off tr d 0)) ∧ ∃ T', Step (XT i) w T w' T' ∧ X w' T' i b (nackM m s off tr d)
  ext : ∀ (i b : Nat) (m : MQ) (s : ByteArray) (off tr d : Int) (w : World) (T : Nat → Tag), X w T i b m → m.Fit B → Calls Tryz.prog 114 #[.pointer (some ⟨b, 0, none⟩), .string s, .int .i64 off, .int .i64 tr, .int .i64 d] w fun e w' =>
      e = .returned (.int .i64 (rangedE m s off tr d 1)) ∧ ∃ T', Step (XT i) w T w' T' ∧ X w' T' i b (extendM m s off tr d)
  tick : ∀ (i b : Nat) (m : MQ) (d : Int) (w : World) (T : Nat → Tag), X w T i b m → m.Fit B → Calls Tryz.prog 55 #[.pointer (some ⟨b, 0, none⟩), .int .i64 d] w fun e w' =>
      e = .returned (.int .i64 (tickE d)) ∧ ∃ T', Step (XT i) w T w' T' ∧ X w' T' i b (tickM m d)
  done : ∀ (i b : Nat) (m : MQ) (s : ByteArray) (t : Tag) (w : World) (T : Nat → Tag), X w T i b m → m.Fit B → Calls Tryz.prog 28 #[.pointer (some ⟨b, 0, none⟩), .string s] w fun e w' =>
      ∃ ao cap, e = .returned (.tuple #[.slice ao (doneL m s).length cap, .int .i64 (doneE m s)]) ∧ ∃ T', Step (XT i) w T w' T' ∧ X w' T' i b m ∧ Row w' T' t 69 2 (.slice ao (doneL m s).length cap) (doneL m s).length (pairVals (doneL m s))
  dead : ∀ (i b : Nat) (m : MQ) (s : ByteArray) (t : Tag) (w : World) (T : Nat → Tag), X w T i b m → m.Fit B → Calls Tryz.prog 29 #[.pointer (some ⟨b, 0, none⟩), .string s] w fun e w' =>
      ∃ ao cap, e = .returned (.tuple #[.slice ao (deadL m s).length cap, .int .i64 (doneE m s)]) ∧ ∃ T', Step (XT i) w T w' T' ∧ X w' T' i b m ∧ Row w' T' t 82 3 (.slice ao (deadL m s).length cap) (deadL m s).length (dlVals (deadL m s))
  span : ∀ (i b : Nat) (m : MQ) (w : World) (T : Nat → Tag), X w T i b m → m.Fit B → Calls Tryz.prog 24 #[.pointer (some ⟨b, 0, none⟩)] w fun e w' =>
      e = .returned (.agg #[.int .i64 m.floor, .int .i64 m.bodies.length]) ∧ ∃ T', Step (XT i) w T w' T' ∧ X w' T' i b m
  ret : ∀ (i b : Nat) (m : MQ) (w : World) (T : Nat → Tag), X w T i b m → m.Fit B → Calls Tryz.prog 60 #[.pointer (some ⟨b, 0, none⟩)] w fun e w' =>
      e = .returned (.int .i64 (retainN m)) ∧ ∃ T', Step (XT i) w T w' T' ∧ X w' T' i b (retainM m)

/-- The pair of number i, in block p: a queue and the document's, which are the same. -/
def PairT (X : World → (Nat → Tag) → Nat → Nat → MQ → Prop) (B : Int) (w : World) (T : Nat → Tag) (i p : Nat) : Prop :=
  ∃ (bx yb : Nat) (m : MQ) (vs : Value) (lg : ByteArray), Blk w T (.pair i) p #[.pointer (some ⟨bx, 0, none⟩), .pointer (some ⟨yb, 0, none⟩), .int .i64 m.c.l, .int .i64 m.c.d, .int .i64 m.c.s, .int .i64 m.c.k, vs, .string lg] 41 ∧
    X w T i bx m ∧ YQ w T i yb m.rq ∧ m.Fit B

theorem PairT.step {X : World → (Nat → Tag) → Nat → Nat → MQ → Prop} {B B' : Int} (hX : XC X B') {S : Tag → Prop} {w w' : World} {T T' : Nat → Tag} {i p : Nat} (h : PairT X B w T i p) (hs : Step S w T w' T') (h1 : ¬ S (.pair i)) (h2 : ∀ t, XT i t → ¬ S t) (h3 : ∀ r k, ¬ S (.y i r k)) : PairT X B w' T' i p := by
  obtain ⟨bx, yb, m, vs, lg, hB, hx, hy, hf⟩ := h
  exact ⟨bx, yb, m, vs, lg, hB.step hs h1, hX.step hx hs h2, hy.step hs h3, hf⟩

/-- the blocks of both queues of number i -/
def ST (i : Nat) (t : Tag) : Prop := XT i t ∨ YT i t

attribute [local go_sem] over_cell

set_option maxRecDepth 100000 in
set_option maxHeartbeats 4000000 in
/-- try answers some number and changes nothing -/
theorem try_any (i p yb : Nat) (m : MQ) (cs : Array Value) (kind qu : Int) (nm bd : ByteArray) (n tr ms : Int) (yes : Bool) (w : World) (T : Nat → Tag) (hB : Blk w T (.pair i) p cs 41) (hc : cs[1]? = some (.pointer (some ⟨yb, 0, none⟩))) (hy : YQ w T i yb m.rq) (hok : m.Ok) :
    Calls Tryz.prog 111 #[.pointer (some ⟨p, 0, none⟩), .agg (opCells kind qu nm bd n tr ms yes)] w fun e w' => (∃ t : Int, e = .returned (.int .i64 t)) ∧ Below w.heap.size w w' := by
  have lp := hB.lt
  have c1 := hB.cell hc
  have ob := heap_alloc_new w (.cells (opCells kind qu nm bd n tr ms yes) 46)
  have hb0 : Below w.heap.size w (w.alloc (.cells (opCells kind qu nm bd n tr ms yes) 46)) := (Below.refl _ _).alloc (Nat.le_refl _) _
  have lo : w.heap.size < (w.alloc (.cells (opCells kind qu nm bd n tr ms yes) 46)).heap.size := by simp
  have hO : Blk (w.alloc (.cells (opCells kind qu nm bd n tr ms yes) 46)) (retag T w.heap.size .free) .free w.heap.size (opCells kind qu nm bd n tr ms yes) 46 := blk_new w T _ 46 .free
  have o2 := hO.cell (j := 2) rfl
  have o4 := hO.cell (j := 4) rfl
  have o5 := hO.cell (j := 5) rfl
  have o7 := hO.cell (j := 7) rfl
  simp only [List.getElem_toArray, List.getElem_cons_succ, List.getElem_cons_zero] at o2 o4 o5 o7
  clear hO ob
  cases yes with
  | true =>
    go_enter Tryz.func111, Tryz.ntmps111
    go_wp2
    go_ret
    exact ⟨⟨tr, rfl⟩, hb0⟩
  | false =>
    obtain ⟨vG, c6⟩ : ∃ vG, w.cell? ⟨yb, 6, none⟩ = some vG ∧ ∃ go gc, vG = .slice go m.groups.length gc ∧ (0 < m.groups.length → ∃ gb, go = some ⟨gb, 0, none⟩) := by
      obtain ⟨_, _, _, vB, vG, vi, vd, hB, hR, hG, hI⟩ := hy
      have hgl : m.rq.groups.length = m.groups.length := by simp [MQ.rq]
      rw [hgl] at hG
      obtain ⟨go, gc, rfl⟩ := row_form hG
      refine ⟨_, hB.cell (j := 6) rfl, go, gc, rfl, fun h => ?_⟩
      obtain ⟨gb, gc', e⟩ := row_some hG h
      cases e
      exact ⟨gb, rfl⟩
    obtain ⟨c6, go, gc, rfl, hgo⟩ := c6
    have ly : yb < w.heap.size := by
      obtain ⟨_, _, _, vB, vG, vi, vd, hB, _⟩ := hy
      exact hB.lt
    have h6 : m.groups.length ≤ 6 := by
      have := hy.few
      simpa [MQ.rq] using this
    go_enter Tryz.func111, Tryz.ntmps111
    go_wp2
    generalize w.alloc (.cells (opCells kind qu nm bd n tr ms false) 46) = w0 at *
    go_loopw [5] (fun u wr => ∃ k : Nat, k ≤ m.groups.length ∧ u = .int .i64 k ∧ Below w0.heap.size w0 wr) (fun u _ => m.groups.length - (intOf u).toNat)
    case atStart => exact ⟨0, Nat.zero_le _, rfl, Below.refl _ _⟩
    case round =>
      obtain ⟨k, hk, rfl, hb⟩ := hrel
      have hbw := hb0.trans (hb.mono hb0.size)
      have e1 := (hbw.cell (p := ⟨p, 1, none⟩) lp).trans c1
      have e6 := (hbw.cell (p := ⟨yb, 6, none⟩) ly).trans c6
      have q2 := (hb.cell (p := ⟨w.heap.size, 2, none⟩) lo).trans o2
      have q4 := (hb.cell (p := ⟨w.heap.size, 4, none⟩) lo).trans o4
      have q5 := (hb.cell (p := ⟨w.heap.size, 5, none⟩) lo).trans o5
      by_cases hlt : k < m.groups.length
      · obtain ⟨g, hg⟩ : ∃ g, m.groups[k]? = some g := ⟨_, List.getElem?_eq_getElem hlt⟩
        obtain ⟨gb, rfl⟩ := hgo (by omega)
        obtain ⟨io, ic, dO, dc, bo, bc, L⟩ := hy.look hg c6
        have n4 := L.n400
        have d0 : w.cell? ⟨gb, k * 4, none⟩ = some (.string g.name) := by
          obtain ⟨_, _, _, vB, vG, vi, vd, hB, hR, hG, hI⟩ := hy
          have hgl : m.rq.groups.length = m.groups.length := by simp [MQ.rq]
          rw [hgl] at hG
          have c6' := hB.cell (j := 6) rfl
          simp only [List.getElem_toArray, List.getElem_cons_succ, List.getElem_cons_zero] at c6'
          rw [c6] at c6'
          cases c6'
          exact hG.cell (groupCells_at m.rq.groups vi vd k g.rg (rq_group hg)).1
        have f0 := (hbw.cell (p := ⟨gb, k * 4, none⟩) L.lg).trans d0
        have f2 := (hbw.cell (p := ⟨gb, k * 4 + 2, none⟩) L.lg).trans L.d2
        have hz := hbw.size
        have hz0 := hb.size
        have mp : p < wr.heap.size := by omega
        have my : yb < wr.heap.size := by omega
        have mg : gb < wr.heap.size := by have := L.lg; omega
        have mo : w.heap.size < wr.heap.size := by omega
        by_cases hs : g.name = nm
        · have hq : (g.name.toList == nm.toList) = true := by rw [strEq]; simp [hs]
          by_cases hn0 : 0 ≤ n
          · by_cases hn1 : n < m.bodies.length
            · obtain ⟨a, rfl⟩ : ∃ a : Nat, n = a := ⟨n.toNat, by omega⟩
              have ha : a < m.bodies.length := by omega
              obtain ⟨x, hx⟩ : ∃ x, g.items[a]? = some x := ⟨_, List.getElem?_eq_getElem (by rw [hok.len g (List.mem_of_getElem? hg)]; exact ha)⟩
              have hit := L.items
              obtain ⟨gi, ic', e⟩ := row_some hit (by omega)
              cases e
              have t0 := (hbw.cell (p := ⟨gi, a * 4, none⟩) hit.lt).trans (hit.cell (itVals_at g.items a x hx).1)
              have mi : gi < wr.heap.size := by have := hit.lt; omega
              clear L hit hB hy
              go_wp2_with fail
              refine wp_region_over (by kernel_rfl) (by kernel_rfl) ?_
              repeat (go_big_quiet_step (fail))
              refine wpQuiet_nil ?_
              rintro _ ⟨x5, rfl⟩
              have hov := hb.trans ((over_below wr x5).mono hb.size)
              have g5 := over_below wr x5
              replace e1 := (g5.cell (p := ⟨p, 1, none⟩) mp).trans e1
              replace e6 := (g5.cell (p := ⟨yb, 6, none⟩) my).trans e6
              replace f2 := (g5.cell (p := ⟨gb, k * 4 + 2, none⟩) mg).trans f2
              replace q4 := (g5.cell (p := ⟨w.heap.size, 4, none⟩) mo).trans q4
              replace t0 := (g5.cell (p := ⟨gi, a * 4, none⟩) mi).trans t0
              have s5 := g5.size
              replace mp := Nat.lt_of_lt_of_le mp s5
              replace my := Nat.lt_of_lt_of_le my s5
              replace mg := Nat.lt_of_lt_of_le mg s5
              replace mo := Nat.lt_of_lt_of_le mo s5
              replace mi := Nat.lt_of_lt_of_le mi s5
              clear g5 s5 q2 q5 f0
              generalize over wr x5 = w5 at *
              go_wp2_with fail
              refine wp_region_over (by kernel_rfl) (by kernel_rfl) ?_
              repeat (go_big_quiet_step (fail))
              refine wpQuiet_nil ?_
              rintro _ ⟨x6, rfl⟩
              have hov2 := hov.trans ((over_below w5 x6).mono hov.size)
              go_wp2
              go_ret
              exact ⟨⟨_, rfl⟩, hb0.trans (hov2.mono hb0.size)⟩
            · have hn1' : decide (n < (m.bodies.length : Int)) = false := by simp; omega
              clear L hB hy
              go_wp2_with fail
              refine wp_region_over (by kernel_rfl) (by kernel_rfl) ?_
              repeat (go_big_quiet_step (fail))
              refine wpQuiet_nil ?_
              rintro _ ⟨x5, rfl⟩
              have hov := hb.trans ((over_below wr x5).mono hb.size)
              generalize over wr x5 = w5 at *
              go_wp2
              exact ⟨⟨k + 1, by omega, by simp, hov⟩, by simp [intOf]; omega⟩
          · have hn0' : decide (0 ≤ n) = false := by simp; omega
            clear L hB hy
            go_wp2_with fail
            refine wp_region_over (by kernel_rfl) (by kernel_rfl) ?_
            repeat (go_big_quiet_step (fail))
            refine wpQuiet_nil ?_
            rintro _ ⟨x5, rfl⟩
            have hov := hb.trans ((over_below wr x5).mono hb.size)
            generalize over wr x5 = w5 at *
            go_wp2
            exact ⟨⟨k + 1, by omega, by simp, hov⟩, by simp [intOf]; omega⟩
        · have hq : (g.name.toList == nm.toList) = false := by rw [strEq]; simp [hs]
          clear L hB hy
          go_wp2_with fail
          refine wp_region_over (by kernel_rfl) (by kernel_rfl) ?_
          repeat (go_big_quiet_step (fail))
          refine wpQuiet_nil ?_
          rintro _ ⟨x5, rfl⟩
          have hov := hb.trans ((over_below wr x5).mono hb.size)
          generalize over wr x5 = w5 at *
          go_wp2
          exact ⟨⟨k + 1, by omega, by simp, hov⟩, by simp [intOf]; omega⟩
      · go_wp2
        go_ret
        exact ⟨⟨tr, rfl⟩, hbw⟩

end Go.Proofs.YtockkceclkcgbaaGreatDoor

/- Contracts of the small functions of package quaykeep: names, picks, a configuration out of numbers. -/
namespace Go.Proofs.YtockkceclkcgbaaGreatDoor
open Go.RowKit

theorem run_str1 (w : World) (n : Int) : (convert 100 9 (.slice (some ⟨w.heap.size, 0, none⟩) 1 1)).run Tryz.prog (w.alloc (.cells #[.int .u8 n] 5)) = .ok (.string (strOfNums [n])) (w.alloc (.cells #[.int .u8 n] 5)) := by
  refine run_convert_bytes_arg _ 100 5 (by kernel_rfl) (by kernel_rfl) w.heap.size 0 1 1 [n] rfl (fun i hi => ?_) 9 (by kernel_rfl)
  obtain rfl : i = 0 := by omega
  have h := heap_alloc_new w (.cells #[.int .u8 n] 5)
  unfold World.cell?
  simp only [h]
  rfl
theorem run_str2 (w : World) (n m : Int) : (convert 100 9 (.slice (some ⟨w.heap.size, 0, none⟩) 2 2)).run Tryz.prog (w.alloc (.cells #[.int .u8 n, .int .u8 m] 5)) = .ok (.string (strOfNums [n, m])) (w.alloc (.cells #[.int .u8 n, .int .u8 m] 5)) := by
  refine run_convert_bytes_arg _ 100 5 (by kernel_rfl) (by kernel_rfl) w.heap.size 0 2 2 [n, m] rfl (fun i hi => ?_) 9 (by kernel_rfl)
  obtain rfl | rfl : i = 0 ∨ i = 1 := by omega
  all_goals
    have h := heap_alloc_new w (.cells #[.int .u8 n, .int .u8 m] 5)
    unfold World.cell?
    simp only [h]
    rfl

/-- the name of the group of number n -/
def nameB (n : Nat) : ByteArray := ⟨#[103, UInt8.ofNat (97 + n)]⟩

set_option maxRecDepth 100000 in
set_option maxHeartbeats 1000000 in
theorem name_any (n : Nat) (hn : n < 6) (w : World) : Calls Tryz.prog 35 #[.int .i64 n] w fun e w' => e = .returned (.string (nameB n)) ∧ Below w.heap.size w w' := by
  have hcv := run_str1 w
  have h : n = 0 ∨ n = 1 ∨ n = 2 ∨ n = 3 ∨ n = 4 ∨ n = 5 := by omega
  rcases h with rfl | rfl | rfl | rfl | rfl | rfl
  all_goals
    go_enter Tryz.func35, Tryz.ntmps35
    go_wp2
    go_ret
    exact ⟨rfl, (Below.refl _ _).alloc (Nat.le_refl _) _⟩

set_option maxHeartbeats 1000000 in
theorem pickk_same (c n : Int) (w : World) (h0 : -9223372036854775808 ≤ c) (h1 : c ≤ 9223372036854775807) (hn : 1 ≤ n) (hn1 : n ≤ 9223372036854775807) :
    Calls Tryz.prog 33 #[.int .i64 c, .int .i64 n] w fun e w' => e = .returned (.int .i64 (pickQ c n)) ∧ w' = w := by
  by_cases hc : c < 0
  · go_enter Tryz.func33, Tryz.ntmps33
    go_wp2
    go_ret
    exact ⟨by simp [pickQ, hc], rfl⟩
  · go_enter Tryz.func33, Tryz.ntmps33
    go_wp2
    go_ret
    refine ⟨?_, rfl⟩
    rw [pickQ, if_neg (by omega), Int.tmod_eq_emod_of_nonneg hc]; rfl

end Go.Proofs.YtockkceclkcgbaaGreatDoor

/- A run of package quaykeep in memory, and its tick. -/
namespace Go.Proofs.YtockkceclkcgbaaGreatDoor
open Go.RowKit

/-- what a run holds: its groups as RG: items are the cells of 'seen', dead the cells of 'last' -/
structure RV where
  c : Conf
  bodies : List Value
  floor : Int
  groups : List RG
  time : Int
  ok : Bool
  right : Bool
  kept : Bool

/-- the blocks of the run of number i -/
def RT (i : Nat) (t : Tag) : Prop := 20 ≤ t.c ∧ t.c ≤ 24 ∧ t.i = i
abbrev Tag.run (i : Nat) : Tag := ⟨20, i, 0, 0⟩
abbrev Tag.rbod (i : Nat) : Tag := ⟨21, i, 0, 0⟩
abbrev Tag.rgrp (i : Nat) : Tag := ⟨22, i, 0, 0⟩
abbrev Tag.rseen (i k : Nat) : Tag := ⟨23, i, k, 0⟩
abbrev Tag.rlast (i k : Nat) : Tag := ⟨24, i, k, 0⟩

def MemAt (w : World) (T : Nat → Tag) (i k : Nat) (g : RG) (n : Nat) (vi vd : Value) : Prop :=
  Row w T (.rseen i k) 67 4 vi n g.items ∧ Row w T (.rlast i k) 3 1 vd g.dead.length g.dead
theorem MemAt.step {S : Tag → Prop} {w w' : World} {T T' : Nat → Tag} {i k : Nat} {g : RG} {n : Nat} {vi vd : Value} (h : MemAt w T i k g n vi vd) (hs : Step S w T w' T') (h3 : ¬ S (.rseen i k)) (h4 : ¬ S (.rlast i k)) : MemAt w' T' i k g n vi vd :=
  ⟨h.1.step hs h3, h.2.step hs h4⟩

abbrev runCells (bx : Nat) (r : RV) (vB vG : Value) : Array Value := #[.pointer (some ⟨bx, 0, none⟩), .int .i64 r.c.l, .int .i64 r.c.d, .int .i64 r.c.s, .int .i64 r.c.k, vB, .int .i64 r.floor, vG, .int .i64 r.time, .bool r.ok, .bool r.right, .bool r.kept]

/-- The run of number i, in block b; its queue in block bx. -/
structure RunM (w : World) (T : Nat → Tag) (i b bx : Nat) (r : RV) : Prop where
  small : r.bodies.length ≤ 400
  few : r.groups.length ≤ 6
  mem : ∃ vB vG vi vd, Blk w T (.run i) b (runCells bx r vB vG) 57 ∧
    Row w T (.rbod i) 9 1 vB r.bodies.length r.bodies ∧ Row w T (.rgrp i) 63 4 vG r.groups.length (groupCells r.groups vi vd) ∧
    ∀ k g, r.groups[k]? = some g → MemAt w T i k g r.bodies.length (vi k) (vd k)

theorem RunM.step {S : Tag → Prop} {w w' : World} {T T' : Nat → Tag} {i b bx : Nat} {r : RV} (h : RunM w T i b bx r) (hs : Step S w T w' T') (hS : ∀ t, RT i t → ¬ S t) : RunM w' T' i b bx r := by
  obtain ⟨h1, h2, vB, vG, vi, vd, hB, hR, hG, hI⟩ := h
  have n : ∀ c k, 20 ≤ c → c ≤ 24 → ¬ S ⟨c, i, k, 0⟩ := fun c k a b => hS _ ⟨a, b, rfl⟩
  exact ⟨h1, h2, vB, vG, vi, vd, hB.step hs (n _ _ (by decide) (by decide)), hR.step hs (n _ _ (by decide) (by decide)), hG.step hs (n _ _ (by decide) (by decide)), fun k g hk => (hI k g hk).step hs (n _ _ (by decide) (by decide)) (n _ _ (by decide) (by decide))⟩

/-- the tags that a run's call may write: its queue's and its own -/
def UT (i : Nat) (t : Tag) : Prop := XT i t ∨ RT i t
theorem xt_rt {i j : Nat} {t : Tag} (h : RT i t) (h' : XT j t) : False := by have := h.1; have := h'.1; omega


theorem RunM.set {w : World} {T : Nat → Tag} {i b bx : Nat} {r r' : RV} (h : RunM w T i b bx r) (j : Nat) (v : Value) (hb : r'.bodies = r.bodies) (hg : r'.groups = r.groups) (hc : ∀ vB vG, (runCells bx r vB vG).setIfInBounds j v = runCells bx r' vB vG) :
    RunM (w.setCell ⟨b, j, none⟩ v) T i b bx r' ∧ Step (fun t => t = .run i) w T (w.setCell ⟨b, j, none⟩ v) T := by
  obtain ⟨h1, h2, vB, vG, vi, vd, hB, hR, hG, hI⟩ := h
  have hs : Step (fun t => t = .run i) w T (w.setCell ⟨b, j, none⟩ v) T := step_setCell w T b j v hB.1
  have hB' := hB.set j v
  rw [hc] at hB'
  refine ⟨⟨by rw [hb]; exact h1, by rw [hg]; exact h2, vB, vG, vi, vd, hB', ?_, ?_, ?_⟩, hs⟩
  · rw [hb]; exact hR.step hs (by simp)
  · rw [hg]; exact hG.step hs (by simp)
  · rw [hg, hb]
    exact fun k g hk => (hI k g hk).step hs (by simp) (by simp)
theorem RunM.setOk {w : World} {T : Nat → Tag} {i b bx : Nat} {r : RV} (h : RunM w T i b bx r) (v : Bool) : RunM (w.setCell ⟨b, 9, none⟩ (.bool v)) T i b bx { r with ok := v } ∧ Step (fun t => t = .run i) w T (w.setCell ⟨b, 9, none⟩ (.bool v)) T := h.set 9 _ rfl rfl (fun _ _ => rfl)
theorem RunM.setRight {w : World} {T : Nat → Tag} {i b bx : Nat} {r : RV} (h : RunM w T i b bx r) (v : Bool) : RunM (w.setCell ⟨b, 10, none⟩ (.bool v)) T i b bx { r with right := v } ∧ Step (fun t => t = .run i) w T (w.setCell ⟨b, 10, none⟩ (.bool v)) T := h.set 10 _ rfl rfl (fun _ _ => rfl)
theorem RunM.setKept {w : World} {T : Nat → Tag} {i b bx : Nat} {r : RV} (h : RunM w T i b bx r) (v : Bool) : RunM (w.setCell ⟨b, 11, none⟩ (.bool v)) T i b bx { r with kept := v } ∧ Step (fun t => t = .run i) w T (w.setCell ⟨b, 11, none⟩ (.bool v)) T := h.set 11 _ rfl rfl (fun _ _ => rfl)
theorem RunM.setTime {w : World} {T : Nat → Tag} {i b bx : Nat} {r : RV} (h : RunM w T i b bx r) (v : Int) : RunM (w.setCell ⟨b, 8, none⟩ (.int .i64 v)) T i b bx { r with time := v } ∧ Step (fun t => t = .run i) w T (w.setCell ⟨b, 8, none⟩ (.int .i64 v)) T := h.set 8 _ rfl rfl (fun _ _ => rfl)
theorem rt_run (i : Nat) {t : Tag} (h : t = .run i) : UT i t := by subst h; exact .inr ⟨by simp, by simp, rfl⟩
theorem xt_run {i j : Nat} : ∀ t, XT j t → ¬ t = .run i := by rintro t h rfl; exact absurd h.1 (by simp)

attribute [local go_sem] over_cell

set_option maxRecDepth 100000 in
set_option maxHeartbeats 4000000 in
theorem rtick_any {X : World → (Nat → Tag) → Nat → Nat → MQ → Prop} {B Bm : Int} (hX : XC X Bm) (hle : B ≤ Bm) (hlm : B ≤ 3999999999999940000) (i b bx : Nat) (m : MQ) (r : RV) (ms : Int) (w : World) (T : Nat → Tag) (hx : X w T i bx m) (hf : m.Fit B) (hr : RunM w T i b bx r) (hok : r.ok = true) (ht : r.time = m.time) (h0 : 0 ≤ ms) (h1 : ms ≤ 60000) :
    Calls Tryz.prog 20 #[.pointer (some ⟨b, 0, none⟩), .int .i64 ms] w fun e w' => e = .returned (.tuple #[]) ∧ ∃ T', Step (UT i) w T w' T' ∧ X w' T' i bx (tickM m ms) ∧ RunM w' T' i b bx { r with time := m.time + ms } ∧ (tickM m ms).Fit (B + 60000) := by
  have htm := hf.ok.time
  have hE : tickE ms = 0 := by simp [tickE, btw, h0, h1]
  have htB := hf.time
  have hnx : ∀ t, RT i t → ¬ XT i t := fun t a c => xt_rt a c
  obtain ⟨g1, g2, vB, vG, vi, vd, hB, hR, hG, hI⟩ := id hr
  have c0 := hB.cell (j := 0) rfl
  have lb := hB.lt
  simp only [List.getElem_toArray, List.getElem_cons_zero] at c0
  clear hB hR hG hI
  go_enter Tryz.func20, Tryz.ntmps20
  go_wp2_with fail
  refine (hX.tick i bx m ms _ T hx (hf.mono hle)).mono ?_
  rintro e w1 ⟨rfl, T1, hs1, hx1⟩
  have hr1 := hr.step hs1 hnx
  rw [hE]
  obtain ⟨_, _, vB, vG, vi, vd, hB, hR, hG, hI⟩ := id hr1
  have l1 := hB.lt
  have c8 := hB.cell (j := 8) rfl
  have c9 := hB.cell (j := 9) rfl
  have z8 := hB.frozen 8
  have z9 := hB.frozen 9
  simp only [List.getElem_toArray, List.getElem_cons_succ, List.getElem_cons_zero] at c8 c9
  rw [hok] at c9
  rw [ht] at c8
  clear c0 lb hr
  clear hB hR hG hI
  obtain ⟨hr2, hs2⟩ := hr1.setOk true
  obtain ⟨hr3, hs3⟩ := hr2.setTime (m.time + ms)
  go_wp2
  go_end0
  have hx2 := hX.step (hX.step hx1 hs2 xt_run) hs3 xt_run
  have e : ({ { r with ok := true } with time := m.time + ms } : RV) = { r with time := m.time + ms } := by rw [← hok]
  rw [e] at hr3
  exact ⟨rfl, T1, (hs1.mono (fun _ h => .inl h)).trans ((hs2.trans hs3).mono (fun _ h => rt_run i h)), hx2, hr3, fit_tick hf ms hlm⟩

end Go.Proofs.YtockkceclkcgbaaGreatDoor

/- Contracts of the small functions of package ranges: what each returns and what it leaves of the world. -/
namespace Go.Proofs.YtockkceclkcgbaaGreatDoor
open Go.RowKit

def isR (a b : Int) : Bool := decide (0 ≤ a ∧ a ≤ b ∧ b ≤ 1099511627776)
def apartB (a b : Int) : Bool := decide (a + 1 < b)
def withinB (a b n : Int) : Bool := decide (a ≤ n ∧ n ≤ b)

theorem ret_bool {p q : Bool} (h : p = q) : Ending.returned (.bool p) = .returned (.bool q) := by rw [h]

set_option maxHeartbeats 400000 in
theorem isRange_any (a b : Int) (w : World) :
    Calls Tryz.prog 143 #[.agg #[.int .i64 a, .int .i64 b]] w fun e w' => e = .returned (.bool (isR a b)) ∧ Below w.heap.size w w' := by
  by_cases h1 : 0 ≤ a
  · by_cases h2 : a ≤ b
    · by_cases h3 : b ≤ 1099511627776
      all_goals
        go_enter Tryz.func143, Tryz.ntmps143
        go_wp2
        go_ret
        exact ⟨by simp [isR]; omega, (Below.refl _ _).alloc (Nat.le_refl _) _⟩
    · go_enter Tryz.func143, Tryz.ntmps143
      go_wp2
      go_ret
      exact ⟨by simp [isR]; omega, (Below.refl _ _).alloc (Nat.le_refl _) _⟩
  · go_enter Tryz.func143, Tryz.ntmps143
    go_wp2
    go_ret
    exact ⟨by simp [isR]; omega, (Below.refl _ _).alloc (Nat.le_refl _) _⟩

set_option maxHeartbeats 400000 in
theorem apart_any (a0 a b b1 : Int) (w : World) (h0 : -1099511627777 ≤ a) (h1 : a ≤ 1099511627777) :
    Calls Tryz.prog 144 #[.agg #[.int .i64 a0, .int .i64 a], .agg #[.int .i64 b, .int .i64 b1]] w fun e w' => e = .returned (.bool (apartB a b)) ∧ Below w.heap.size w w' := by
  go_enter Tryz.func144, Tryz.ntmps144
  go_wp2
  go_ret
  exact ⟨ret_bool (by simp [apartB]), ((Below.refl _ _).alloc (Nat.le_refl _) _).alloc (by simp) _⟩

set_option maxHeartbeats 400000 in
theorem within_any (a b n : Int) (w : World) :
    Calls Tryz.prog 157 #[.agg #[.int .i64 a, .int .i64 b], .int .i64 n] w fun e w' => e = .returned (.bool (withinB a b n)) ∧ Below w.heap.size w w' := by
  by_cases h1 : a ≤ n
  · by_cases h2 : n ≤ b
    all_goals
      go_enter Tryz.func157, Tryz.ntmps157
      go_wp2
      go_ret
      exact ⟨by simp [withinB]; omega, (Below.refl _ _).alloc (Nat.le_refl _) _⟩
  · go_enter Tryz.func157, Tryz.ntmps157
    go_wp2
    go_ret
    exact ⟨by simp [withinB]; omega, (Below.refl _ _).alloc (Nat.le_refl _) _⟩

set_option maxHeartbeats 400000 in
theorem span_any (a b c d : Int) (w : World) :
    Calls Tryz.prog 145 #[.agg #[.int .i64 a, .int .i64 b], .agg #[.int .i64 c, .int .i64 d]] w fun e w' => e = .returned (.agg #[.int .i64 (min a c), .int .i64 (max b d)]) ∧ Below w.heap.size w w' := by
  go_enter Tryz.func145, Tryz.ntmps145
  go_wp2
  all_goals
    refine bodyPost_ret (v := .agg #[.int .i64 (min a c), .int .i64 (max b d)]) ?_ rfl ⟨rfl, (((Below.refl _ _).alloc (Nat.le_refl _) _).alloc (by simp) _).alloc (by simp; omega) _⟩
    simp [results, Tryz.results145, go_sem]
    omega

def pickI (c n : Int) : Int := if c < 0 then -((c + 1).tmod n) else c.tmod n

theorem pickI_range (c n : Int) (hn : 1 ≤ n) : 0 ≤ pickI c n ∧ pickI c n < n := by
  unfold pickI
  split
  · have h1 := Int.tmod_nonneg (a := -(c + 1)) n (by omega)
    have h2 := Int.tmod_lt_of_pos (-(c + 1)) (b := n) (by omega)
    rw [Int.neg_tmod] at h1 h2
    omega
  · have h1 := Int.tmod_nonneg (a := c) n (by omega)
    have h2 := Int.tmod_lt_of_pos c (b := n) (by omega)
    omega

set_option maxHeartbeats 400000 in
theorem pick_any (c n : Int) (w : World) (h0 : -9223372036854775808 ≤ c) (h1 : c ≤ 9223372036854775807) (hn : 1 ≤ n) (hn1 : n ≤ 100) :
    Calls Tryz.prog 33 #[.int .i64 c, .int .i64 n] w fun e w' => e = .returned (.int .i64 (pickI c n)) ∧ w' = w := by
  by_cases hc : c < 0
  · go_enter Tryz.func33, Tryz.ntmps33
    go_wp2
    go_ret
    exact ⟨by simp [pickI, hc], rfl⟩
  · go_enter Tryz.func33, Tryz.ntmps33
    go_wp2
    go_ret
    refine ⟨?_, rfl⟩
    rw [pickI, if_neg (by omega), Int.tmod_eq_emod_of_nonneg hc]; rfl

end Go.Proofs.YtockkceclkcgbaaGreatDoor

/- The contract of ranges.isSet: it tells whether a list of ranges is a set, and makes new memory alone. -/
namespace Go.Proofs.YtockkceclkcgbaaGreatDoor
open Go.RowKit

abbrev RL := List (Int × Int)
def lo (rs : RL) (i : Nat) : Int := (rs.getD i (0, 0)).1
def hi (rs : RL) (i : Nat) : Int := (rs.getD i (0, 0)).2

def goodAt (rs : RL) (i : Nat) : Bool := isR (lo rs i) (hi rs i) && (i == 0 || apartB (hi rs (i - 1)) (lo rs i))
def setB (rs : RL) : Bool := (List.range rs.length).all (goodAt rs)

theorem setB_iff (rs : RL) : setB rs = true ↔ ∀ i, i < rs.length → goodAt rs i = true := by simp [setB]
theorem setB_no (rs : RL) (i : Nat) (h : i < rs.length) (hg : goodAt rs i = false) : setB rs = false := by
  cases hs : setB rs with
  | false => rfl
  | true => have := (setB_iff rs).1 hs i h; rw [hg] at this; cases this

theorem goodAt_isR {rs : RL} {i : Nat} (h : goodAt rs i = true) : isR (lo rs i) (hi rs i) = true := by
  simp [goodAt] at h; exact h.1
theorem isR_hi {a b : Int} (h : isR a b = true) : 0 ≤ a ∧ a ≤ b ∧ b ≤ 1099511627776 := by simpa [isR] using h
theorem good_succ {rs : RL} {k : Nat} (h : Hid (∀ j, j < k → goodAt rs j = true)) (hk : goodAt rs k = true) : Hid (∀ j, j < k + 1 → goodAt rs j = true) := fun j hj => by
  rcases Nat.lt_succ_iff_lt_or_eq.1 hj with h1 | rfl
  · exact h.out j h1
  · exact hk

/-- The cells of a list of ranges, from the address on. -/
def Cells (w : World) (b off : Nat) (rs : RL) : Prop :=
  b < w.heap.size ∧ ∀ i, i < rs.length → w.cell? ⟨b, off + i * 2, none⟩ = some (.int .i64 (lo rs i)) ∧ w.cell? ⟨b, off + i * 2 + 1, none⟩ = some (.int .i64 (hi rs i))

theorem Cells.below {w w' : World} {b off : Nat} {rs : RL} (h : Cells w b off rs) {B : Nat} (hB : Below B w w') (hb : b < B) : Cells w' b off rs :=
  ⟨Nat.lt_of_lt_of_le h.1 hB.size, fun i hi => by rw [hB.cell (p := ⟨b, off + i * 2, none⟩) hb, hB.cell (p := ⟨b, off + i * 2 + 1, none⟩) hb]; exact h.2 i hi⟩

attribute [local go_sem] over_cell

set_option maxHeartbeats 400000 in
theorem isSet_cells (rs : RL) (b off cap : Nat) (w : World) (hc : Cells w b off rs) (hlen : rs.length ≤ 140737488355328) :
    Calls Tryz.prog 142 #[.slice (some ⟨b, off, none⟩) rs.length cap] w fun e w' => e = .returned (.bool (setB rs)) ∧ Below w.heap.size w w' := by
  go_enter Tryz.func142, Tryz.ntmps142
  go_wp2
  go_loopw [7] (fun i wr => ∃ k : Nat, k ≤ rs.length ∧ i = .int .i64 k ∧ Below w.heap.size w wr ∧ Hid (∀ j, j < k → goodAt rs j = true)) (fun i _ => rs.length - (intOf i).toNat)
  case atStart => exact ⟨0, Nat.zero_le _, rfl, Below.refl _ _, fun j hj => by omega⟩
  case round =>
    obtain ⟨k, hk, rfl, hb, hg⟩ := hrel
    by_cases hlt : k < rs.length
    · have hcr := hc.below hb hc.1
      have hb1 := hcr.1
      have hc0 := (hcr.2 k hlt).1
      have hc1 := (hcr.2 k hlt).2
      clear hcr
      go_wp2_with fail
      refine (isRange_any _ _ _).mono ?_
      rintro e w1 ⟨rfl, hb2⟩
      have hz : wr.heap.size < w1.heap.size := by have := hb2.size; simp at this; omega
      have hz2 : b < w1.heap.size := by omega
      have hcl : ∀ o, w1.cell? ⟨wr.heap.size, o, none⟩ = (wr.alloc (Obj.cells #[Value.int IntKind.i64 (lo rs k), Value.int IntKind.i64 (hi rs k)] 69)).cell? ⟨wr.heap.size, o, none⟩ := fun o => hb2.cell (p := ⟨wr.heap.size, o, none⟩) (by simp)
      have hcb : ∀ o, w1.cell? ⟨b, o, none⟩ = wr.cell? ⟨b, o, none⟩ := fun o => by
        rw [hb2.cell (p := ⟨b, o, none⟩) (by simp; omega)]
        exact World.cell?_of_block (Below.heap_alloc _ _ _ hb1)
      have hbb : Below w.heap.size w w1 := (hb.alloc hb.size _).trans (hb2.mono (by have := hb.size; simp; omega))
      cases hr : isR (lo rs k) (hi rs k)
      · go_wp2
        go_ret
        have := setB_no rs k hlt (by simp [goodAt, hr])
        exact ⟨ret_bool this.symm, hbb⟩
      · by_cases hk0 : 0 < k
        · have hp0 := ((hc.below hb hc.1).2 (k - 1) (by omega)).1
          have hp1 := ((hc.below hb hc.1).2 (k - 1) (by omega)).2
          have hbd := isR_hi (goodAt_isR (hg.out (k - 1) (by omega)))
          go_wp2_with fail
          refine wp_region_over (by kernel_rfl) (by kernel_rfl) ?_
          repeat (go_big_quiet_step ((go_at_call 144; exact quiet_over (fun w1 => apart_any _ _ _ _ w1 (by omega) (by omega)))))
          refine wpQuiet_nil ?_
          rintro _ ⟨x, rfl⟩
          have hov := over_below w1 x
          cases hap : apartB (hi rs (k - 1)) (lo rs k)
          · go_wp2
            go_ret
            have := setB_no rs k hlt (by simp [goodAt, hr, hap]; omega)
            exact ⟨ret_bool this.symm, hbb.trans (hov.mono hbb.size)⟩
          · go_wp2
            go_roundw
            case rel => exact ⟨k + 1, by omega, by go_num, hbb.trans (hov.mono hbb.size), good_succ hg (by simp [goodAt, hr, hap])⟩
            case measure => simp [intOf]; omega
        · have hd : decide (0 < k) = false := by simpa using hk0
          go_wp2_with fail
          refine wp_region_over (by kernel_rfl) (by kernel_rfl) ?_
          repeat (go_big_quiet_step (fail))
          refine wpQuiet_nil ?_
          rintro _ ⟨x, rfl⟩
          have hov := over_below w1 x
          go_wp2
          go_roundw
          case rel => exact ⟨k + 1, by omega, by go_num, hbb.trans (hov.mono hbb.size), good_succ hg (by simp [goodAt, hr]; omega)⟩
          case measure => simp [intOf]; omega
    · go_wp2
      go_ret
      have : setB rs = true := (setB_iff rs).2 fun i hi => hg.out i (by omega)
      exact ⟨ret_bool this.symm, hb⟩

end Go.Proofs.YtockkceclkcgbaaGreatDoor

/- The law's world in memory: pairs of a queue and the document's; the contract of told at Span. -/
import Derived.Test.YtedbcmlekjagpaaO4
import Derived.Test.YtedbcmlekjagpaaO5
import Derived.Test.YtedbcmlekjagpaaO6
namespace Go.Proofs.Ytedbcmlekjagpaa
open Go.RowKit

/-- The pair of number i, in block p: a queue and the document's, which tell the same. -/
def PairI (w : World) (T : Nat → Tag) (i p : Nat) : Prop :=
  ∃ (bx yb : Nat) (q : RQ) (vs : Value), Blk w T (.pair i) p #[.pointer (some ⟨bx, 0, none⟩), .pointer (some ⟨yb, 0, none⟩), .int .i64 q.c.l, .int .i64 q.c.d, .int .i64 q.c.s, .int .i64 q.c.k, vs, .string ⟨#[]⟩] 56 ∧
    XQ w T i bx q.c q.bodies (q.groups.map (·.name)) ∧ YQ w T i yb q ∧ q.floor = 0

theorem PairI.step {S : Tag → Prop} {w w' : World} {T T' : Nat → Tag} {i p : Nat} (h : PairI w T i p) (hs : Step S w T w' T') (h1 : ¬ S (.pair i)) (h2 : ∀ r, ¬ S (.x i r)) (h3 : ∀ r k, ¬ S (.y i r k)) : PairI w' T' i p := by
  obtain ⟨bx, yb, q, vs, hB, hx, hy, hf⟩ := h
  exact ⟨bx, yb, q, vs, hB.step hs h1, hx.step hs h2, hy.step hs h3, hf⟩

def ptrV (p : Nat) : Value := .pointer (some ⟨p, 0, none⟩)

/-- The law's world in block wb: its two configurations, its pairs. -/
structure WI (w : World) (T : Nat → Tag) (wb : Nat) (c d : Conf) (ps : List Nat) : Prop where
  blk : ∃ vP, Blk w T .world wb #[.int .i64 c.l, .int .i64 c.d, .int .i64 c.s, .int .i64 c.k, .int .i64 d.l, .int .i64 d.d, .int .i64 d.s, .int .i64 d.k, vP, .slice none 0 0, .slice none 0 0, .int .i64 3] 50 ∧ Row w T .row 57 1 vP ps.length (ps.map ptrV)
  prs : ∀ i p, ps[i]? = some p → PairI w T i p

theorem WI.step {S : Tag → Prop} {w w' : World} {T T' : Nat → Tag} {wb : Nat} {c d : Conf} {ps : List Nat} (h : WI w T wb c d ps) (hs : Step S w T w' T') (h0 : ¬ S .world) (h0' : ¬ S .row) (h1 : ∀ i, i < ps.length → ¬ S (.pair i)) (h2 : ∀ i r, i < ps.length → ¬ S (.x i r)) (h3 : ∀ i r k, i < ps.length → ¬ S (.y i r k)) : WI w' T' wb c d ps := by
  obtain ⟨⟨vP, hB, hR⟩, hp⟩ := h
  refine ⟨⟨vP, hB.step hs h0, hR.step hs h0'⟩, fun i p hi => ?_⟩
  have hlt := (List.getElem?_eq_some_iff.1 hi).1
  exact (hp i p hi).step hs (h1 i hlt) (fun r => h2 i r hlt) (fun r k => h3 i r k hlt)

attribute [local go_sem] over_cell

set_option maxRecDepth 100000 in
set_option maxHeartbeats 2000000 in
theorem told_span (i p : Nat) (v : Value) (s : ByteArray) (w : World) (T : Nat → Tag) (hp : PairI w T i p) :
    Calls Try.prog 19 #[v, .pointer (some ⟨p, 0, none⟩), .int .i64 11, .string s] w fun e w' => e = .returned (.bool true) ∧ Below w.heap.size w w' := by
  obtain ⟨bx, yb, q, vs, hB, hx, hy, hf⟩ := hp
  have l1 := hB.lt
  have c0 := hB.cell (j := 0) rfl
  have c1 := hB.cell (j := 1) rfl
  simp only [List.getElem_toArray, List.getElem_cons_succ, List.getElem_cons_zero] at c0 c1
  obtain ⟨hsm, _, _, vB, vG, vi, vd, hY, hR, _⟩ := hy
  obtain ⟨bo, bc, rfl⟩ := row_form hR
  have l2 := hY.lt
  have d4 := hY.cell (j := 4) rfl
  have d5 := hY.cell (j := 5) rfl
  simp only [List.getElem_toArray, List.getElem_cons_succ, List.getElem_cons_zero] at d4 d5
  rw [hf] at d5
  clear hB hY hR hf
  go_enter Try.func19, Try.ntmps19
  go_wp2_with fail
  refine (xspan_any i bx q.c q.bodies _ _ T hx).mono ?_
  rintro e w1 ⟨rfl, hb1⟩
  have e1 := hb1.cell (p := ⟨p, 1, none⟩) l1
  have e4 := hb1.cell (p := ⟨yb, 4, none⟩) l2
  have e5 := hb1.cell (p := ⟨yb, 5, none⟩) l2
  rw [c1] at e1
  rw [d4] at e4
  rw [d5] at e5
  have m1 : p < w1.heap.size := Nat.lt_of_lt_of_le l1 hb1.size
  have m2 : yb < w1.heap.size := Nat.lt_of_lt_of_le l2 hb1.size
  clear c0 c1 d4 d5 hx
  generalize q.bodies.length = n at *
  go_wp2_with fail
  refine wp_region_over (by kernel_rfl) (by kernel_rfl) ?_
  repeat (go_big_quiet_step (fail))
  refine wpQuiet_nil ?_
  rintro _ ⟨x, rfl⟩
  go_wp2
  go_ret
  exact ⟨by first | rfl | simp, (hb1.alloc hb1.size _).trans ((over_below _ x).mono (by have := hb1.size; simp; omega))⟩

end Go.Proofs.Ytedbcmlekjagpaa

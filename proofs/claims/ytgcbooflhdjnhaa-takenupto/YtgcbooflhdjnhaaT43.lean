/- The contract of step over the program's queue. -/
import Derived.Test.YtgcbooflhdjnhaaT42
namespace Go.Proofs.Ytgcbooflhdjnhaa
open Go.RowKit

attribute [local go_sem] over_cell

/-- what step leaves -/
def StepPost (B : Int) (w : World) (T : Nat → Tag) (wb : Nat) (c d : Conf) (M : Int) (ps : List Nat) (q q' : Nat) (e : Ending) (w' : World) : Prop :=
  e = .returned (.bool true) ∧ ∃ T' ps' q1 q1', Step (fun t => t ≠ .old) w T w' T' ∧ WT X (B + 60000) w' T' wb c d M ps' q1 q1' ∧ ps.length ≤ ps'.length ∧ ps'.length ≤ ps.length + 1 ∧ q1 ≤ q + 2 ∧ q1' ≤ q' + 2

set_option maxRecDepth 100000 in
set_option maxHeartbeats 2000000 in
theorem stepT_open {B Bm : Int} (hX : XC X Bm) (h0B : 0 ≤ B) (wb : Nat) (c d : Conf) (M : Int) (hM : 1 ≤ M ∧ M ≤ 12) (ps : List Nat) (q q' : Nat) (qu : Int) (nm bd : ByteArray) (n tr ms : Int) (yes : Bool) (w : World) (T : Nat → Tag) (hw : WT X B w T wb c d M ps q q') (hn : i64 n) (hlen : ps.length + 1 ≤ 17592186044416) :
    Calls Try.prog 20 #[.pointer (some ⟨wb, 0, none⟩), .agg (opCells 1 qu nm bd n tr ms yes)] w fun e w' => e = .returned (.bool true) ∧
      ∃ T' ps', Step (fun t => t ≠ .old) w T w' T' ∧ WT X B w' T' wb c d M ps' q q' ∧ ps.length ≤ ps'.length ∧ ps'.length ≤ ps.length + 1 ∧ (goodC (selC n c d) = true → ps'.length = ps.length + 1) := by
  have hM1 : ¬ M < 1 := by omega
  clear hM
  have hw0 := hw
  obtain ⟨⟨vP, vr, vd, hB, hR, hbr, hbd⟩, hprs⟩ := hw
  have l0 := hB.lt
  have k11 := hB.cell (j := 11) rfl
  simp only [List.getElem_toArray, List.getElem_cons_succ, List.getElem_cons_zero] at k11
  clear hB hR hprs hbr hbd
  have l1 : wb < (w.alloc (.cells (opCells 1 qu nm bd n tr ms yes) 61)).heap.size := by simp; omega
  have l2 : w.heap.size < (w.alloc (.cells (opCells 1 qu nm bd n tr ms yes) 61)).heap.size := by simp
  go_enter Try.func20, Try.ntmps20
  go_wp2_with fail
  refine wp_region_over (by kernel_rfl) (by kernel_rfl) ?_
  repeat (go_big_quiet_step (fail))
  refine wpQuiet_nil ?_
  rintro _ ⟨x, rfl⟩
  have hb := over_below (w.alloc (.cells (opCells 1 qu nm bd n tr ms yes) 61)) x
  have o0 := hb.cell (p := ⟨w.heap.size, 0, none⟩) l2
  have o4 := hb.cell (p := ⟨w.heap.size, 4, none⟩) l2
  generalize over (w.alloc (.cells (opCells 1 qu nm bd n tr ms yes) 61)) x = w2 at *
  have hs : Step (fun _ => False) w T w2 T := step_below _ T (((Below.refl _ _).alloc (Nat.le_refl _) _).trans (hb.mono (by simp)))
  have hw2 := hw0.step hX hs (fun _ h => h)
  go_wp2_with fail
  refine (opened_any hX h0B wb c d M ps q q' n _ T hw2 hn.1 hn.2 hlen).mono ?_
  rintro e w3 ⟨rfl, T3, ps', hs3, hw3, e1, e2, e3⟩
  go_wp2
  go_ret
  exact ⟨rfl, T3, ps', (hs.mono (fun _ h => h.elim)).trans hs3, hw3, e1, e2, fun hg => by obtain ⟨p, rfl, _⟩ := e3 hg; simp⟩

theorem step_any {B : Int} (h0B : 0 ≤ B) (hlm : B ≤ 3999999999999940000) (wb : Nat) (c d : Conf) (M : Int) (hM : 1 ≤ M ∧ M ≤ 12) (ps : List Nat) (q q' : Nat) (kind qu : Int) (nm bd : ByteArray) (n tr ms : Int) (yes : Bool) (w : World) (T : Nat → Tag) (hw : WT X B w T wb c d M ps q q') (hn : i64 n) (hqu : i64 qu) (hpos : kind = 1 ∨ 0 < ps.length) (hlen : ps.length + 1 ≤ 17592186044416) (hq : q ≤ 900000000) (hq' : q' ≤ 900000000) :
    Calls Try.prog 20 #[.pointer (some ⟨wb, 0, none⟩), .agg (opCells kind qu nm bd n tr ms yes)] w (StepPost B w T wb c d M ps q q') := by
  have hX := xc B hlm
  by_cases h1 : kind = 1
  · subst h1
    refine (stepT_open hX h0B wb c d M hM ps q q' qu nm bd n tr ms yes w T hw hn hlen).mono ?_
    rintro e w' ⟨rfl, T', ps', hs, hw', e1, e2, _⟩
    exact ⟨rfl, T', ps', q, q', hs, hw'.mono (by omega), e1, e2, by omega, by omega⟩
  · by_cases h2 : 2 ≤ kind ∧ kind ≤ M
    · refine (stepT_pair hX wb c d M hM.2 ps q q' kind qu nm bd n tr ms yes w T hw h2 hqu (hpos.resolve_left h1) (by omega) (fun w T k p hk hw => callT_any hX (Int.le_refl _) hlm wb c d M ps q q' k p kind qu nm bd n tr ms yes w T hw hk ⟨h2.1, Int.le_trans h2.2 hM.2⟩ hq hq')).mono ?_
      rintro e w' ⟨rfl, T', q1, q1', hs, hw', e1, e2⟩
      exact ⟨rfl, T', ps, q1, q1', hs, hw', by omega, by omega, e1, e2⟩
    · refine (stepT_other hX wb c d M ps q q' kind qu nm bd n tr ms yes w T hw (by omega)).mono ?_
      rintro e w' ⟨rfl, T', q1, q1', hs, hw', e1, e2⟩
      exact ⟨rfl, T', ps, q1, q1', hs, hw'.mono (by omega), by omega, by omega, by omega, by omega⟩

end Go.Proofs.Ytgcbooflhdjnhaa

/- The script among the arguments; the law's world as UpTo lays it first; a step that leaves a queue. -/
namespace Go.Proofs.Ytgcbooflhdjnhaa
open Go.RowKit

/-- A step of the script. -/
structure OpV where
  kind : Int
  qu : Int
  nm : ByteArray
  bd : ByteArray
  n : Int
  tr : Int
  ms : Int
  yes : Bool

abbrev OpV.cells (o : OpV) : Array Value := opCells o.kind o.qu o.nm o.bd o.n o.tr o.ms o.yes

/-- The script among the arguments. -/
def ArgO (w : World) (ao : Option Addr) (l : List OpV) : Prop := ∀ k o, l[k]? = some o → i64 o.qu ∧ i64 o.n ∧ ∃ b off, ao = some ⟨b, off, none⟩ ∧ b < w.heap.size ∧ ∀ j v, o.cells[j]? = some v → w.cell? ⟨b, off + k * 8 + j, none⟩ = some v

theorem WT.conf0 {B Bm : Int} (hX : XC X Bm) {w : World} {T : Nat → Tag} {wb : Nat} {c d : Conf} {most : Int} {ps : List Nat} {q q' : Nat} (h : WT X B w T wb c d most ps q q') (c' : Conf) : WT X B ((((w.setCell ⟨wb, 0, none⟩ (.int .i64 c'.l)).setCell ⟨wb, 1, none⟩ (.int .i64 c'.d)).setCell ⟨wb, 2, none⟩ (.int .i64 c'.s)).setCell ⟨wb, 3, none⟩ (.int .i64 c'.k)) T wb c' d most ps q q' ∧
    Step (fun t => t = .world) w T ((((w.setCell ⟨wb, 0, none⟩ (.int .i64 c'.l)).setCell ⟨wb, 1, none⟩ (.int .i64 c'.d)).setCell ⟨wb, 2, none⟩ (.int .i64 c'.s)).setCell ⟨wb, 3, none⟩ (.int .i64 c'.k)) T := by
  obtain ⟨⟨vP, vr, vd, hB, hR, hr, hd⟩, hp⟩ := h
  have hs : Step (fun t => t = .world) w T ((((w.setCell ⟨wb, 0, none⟩ (.int .i64 c'.l)).setCell ⟨wb, 1, none⟩ (.int .i64 c'.d)).setCell ⟨wb, 2, none⟩ (.int .i64 c'.s)).setCell ⟨wb, 3, none⟩ (.int .i64 c'.k)) T :=
    (((step_setCell w T wb 0 _ (S := fun t => t = .world) hB.1).trans (step_setCell _ T wb 1 _ (S := fun t => t = .world) hB.1)).trans (step_setCell _ T wb 2 _ (S := fun t => t = .world) hB.1)).trans (step_setCell _ T wb 3 _ (S := fun t => t = .world) hB.1)
  exact ⟨⟨⟨vP, vr, vd, (((hB.set 0 _).set 1 _).set 2 _).set 3 _, hR.step hs (by simp), hr.step hs (by simp) (by simp), hd.step hs (by simp) (by simp)⟩, fun i p hi => (hp i p hi).step hX hs (by simp) (by rintro t h1 rfl; exact absurd h1.1 (by simp)) (by simp)⟩, hs⟩
theorem WT.conf1 {B Bm : Int} (hX : XC X Bm) {w : World} {T : Nat → Tag} {wb : Nat} {c d : Conf} {most : Int} {ps : List Nat} {q q' : Nat} (h : WT X B w T wb c d most ps q q') (c' : Conf) : WT X B ((((w.setCell ⟨wb, 4, none⟩ (.int .i64 c'.l)).setCell ⟨wb, 5, none⟩ (.int .i64 c'.d)).setCell ⟨wb, 6, none⟩ (.int .i64 c'.s)).setCell ⟨wb, 7, none⟩ (.int .i64 c'.k)) T wb c c' most ps q q' ∧
    Step (fun t => t = .world) w T ((((w.setCell ⟨wb, 4, none⟩ (.int .i64 c'.l)).setCell ⟨wb, 5, none⟩ (.int .i64 c'.d)).setCell ⟨wb, 6, none⟩ (.int .i64 c'.s)).setCell ⟨wb, 7, none⟩ (.int .i64 c'.k)) T := by
  obtain ⟨⟨vP, vr, vd, hB, hR, hr, hd⟩, hp⟩ := h
  have hs : Step (fun t => t = .world) w T ((((w.setCell ⟨wb, 4, none⟩ (.int .i64 c'.l)).setCell ⟨wb, 5, none⟩ (.int .i64 c'.d)).setCell ⟨wb, 6, none⟩ (.int .i64 c'.s)).setCell ⟨wb, 7, none⟩ (.int .i64 c'.k)) T :=
    (((step_setCell w T wb 4 _ (S := fun t => t = .world) hB.1).trans (step_setCell _ T wb 5 _ (S := fun t => t = .world) hB.1)).trans (step_setCell _ T wb 6 _ (S := fun t => t = .world) hB.1)).trans (step_setCell _ T wb 7 _ (S := fun t => t = .world) hB.1)
  exact ⟨⟨⟨vP, vr, vd, (((hB.set 4 _).set 5 _).set 6 _).set 7 _, hR.step hs (by simp), hr.step hs (by simp) (by simp), hd.step hs (by simp) (by simp)⟩, fun i p hi => (hp i p hi).step hX hs (by simp) (by rintro t h1 rfl; exact absurd h1.1 (by simp)) (by simp)⟩, hs⟩

def conf0 : Conf := ⟨10, 2, 2, 5⟩
def confZ : Conf := ⟨0, 0, 0, 0⟩
def letterA : ByteArray := ⟨#[97]⟩
def letterG : ByteArray := ⟨#[103]⟩
def nought : ByteArray := ⟨#[]⟩

/-- the law's world as it is laid first: two configurations of the caller's in blocks of their own, the world behind them -/
theorem law_start (c d : Conf) (most : Int) (w : World) : ∃ T, Step (fun _ => False) w (fun _ => .old) (((w.alloc (.cells c.cells 44)).alloc (.cells d.cells 44)).alloc (.cells (wtCells conf0 confZ (.slice none 0 0) (.slice none 0 0) (.slice none 0 0) most) 50)) T ∧
    WT X 0 (((w.alloc (.cells c.cells 44)).alloc (.cells d.cells 44)).alloc (.cells (wtCells conf0 confZ (.slice none 0 0) (.slice none 0 0) (.slice none 0 0) most) 50)) T (w.heap.size + 2) conf0 confZ most [] 0 0 ∧
    Blk (((w.alloc (.cells c.cells 44)).alloc (.cells d.cells 44)).alloc (.cells (wtCells conf0 confZ (.slice none 0 0) (.slice none 0 0) (.slice none 0 0) most) 50)) T .old w.heap.size c.cells 44 ∧
    Blk (((w.alloc (.cells c.cells 44)).alloc (.cells d.cells 44)).alloc (.cells (wtCells conf0 confZ (.slice none 0 0) (.slice none 0 0) (.slice none 0 0) most) 50)) T .old (w.heap.size + 1) d.cells 44 := by
  have a1 := step_new w (fun _ => .old) (.cells c.cells 44) .old (fun _ => False)
  have b1 := blk_new w (fun _ => .old) c.cells 44 .old
  generalize hw1 : w.alloc (.cells c.cells 44) = w1 at *
  have s1 : w1.heap.size = w.heap.size + 1 := by rw [← hw1]; simp
  generalize retag (fun _ => Tag.old) w.heap.size .old = T1 at *
  have a2 := step_new w1 T1 (.cells d.cells 44) .old (fun _ => False)
  have b2 := blk_new w1 T1 d.cells 44 .old
  have b1' := b1.step a2 (fun h => h)
  rw [s1] at b2
  rw [s1] at a2 b1'
  generalize hw2 : w1.alloc (.cells d.cells 44) = w2 at *
  have s2 : w2.heap.size = w.heap.size + 2 := by rw [← hw2]; simp [s1]
  generalize retag T1 (w.heap.size + 1) .old = T2 at *
  have a3 := step_new w2 T2 (.cells (wtCells conf0 confZ (.slice none 0 0) (.slice none 0 0) (.slice none 0 0) most) 50) .world (fun _ => False)
  have b3 := blk_new w2 T2 (wtCells conf0 confZ (.slice none 0 0) (.slice none 0 0) (.slice none 0 0) most) 50 .world
  refine ⟨_, (a1.trans a2).trans a3, ⟨⟨.slice none 0 0, .slice none 0 0, .slice none 0 0, ?_, row_nil _ _ _ _ _, bk_nil _ _ _ _ _ _, bk_nil _ _ _ _ _ _⟩, fun i p h => by simp at h⟩, b1'.step a3 (fun h => h), b2.step a3 (fun h => h)⟩
  rw [s2] at b3
  rw [s2]
  exact b3

/-- the cells of a row of steps -/
def opsCells : List OpV → List Value
  | [] => []
  | o :: r => o.cells.toList ++ opsCells r
theorem opsCells_at : ∀ (l : List OpV) (k : Nat) (o : OpV) (j : Nat) (v : Value), l[k]? = some o → o.cells[j]? = some v → (opsCells l)[k * 8 + j]? = some v
  | [], _, _, _, _, h, _ => by simp at h
  | x :: r, 0, o, j, v, h, hj => by
    simp only [List.getElem?_cons_zero, Option.some.injEq] at h
    subst h
    have hlt : j < x.cells.toList.length := by
      rcases Nat.lt_or_ge j x.cells.size with h | h
      · simpa using h
      · rw [Array.getElem?_eq_none h] at hj; cases hj
    rw [Nat.zero_mul, Nat.zero_add, opsCells, List.getElem?_append_left hlt]
    simpa using hj
  | x :: r, k + 1, o, j, v, h, hj => by
    have h2 := opsCells_at r k o j v (by simpa using h) hj
    have e : x.cells.toList.length = 8 := rfl
    rw [opsCells, List.getElem?_append_right (by rw [e]; omega), e, show (k + 1) * 8 + j - 8 = k * 8 + j by omega]
    exact h2

def firstOps : List OpV := [⟨1, 0, nought, nought, 0, 0, 0, false⟩, ⟨2, 0, nought, letterA, 0, 0, 0, false⟩, ⟨3, 0, letterG, nought, 0, 0, 0, false⟩, ⟨4, 0, letterG, nought, 9, 0, 0, false⟩, ⟨5, 0, letterG, nought, 0, 0, 0, false⟩, ⟨9, 0, letterG, nought, 0, 0, 0, false⟩]

theorem firstOps_i64 : ∀ o ∈ firstOps, i64 o.qu ∧ i64 o.n := by
  intro o ho
  simp only [firstOps, List.mem_cons, List.not_mem_nil, or_false] at ho
  rcases ho with rfl | rfl | rfl | rfl | rfl | rfl <;> exact ⟨⟨by decide, by decide⟩, ⟨by decide, by decide⟩⟩

/-- the first steps' own row -/
theorem first_arg (w : World) : ArgO (w.alloc (.cells (opsCells firstOps).toArray 61)) (some ⟨w.heap.size, 0, none⟩) firstOps := by
  intro k o hk
  obtain ⟨h1, h2⟩ := firstOps_i64 o (List.mem_of_getElem? hk)
  refine ⟨h1, h2, w.heap.size, 0, rfl, by simp, fun j v hj => ?_⟩
  have h := heap_alloc_new w (.cells (opsCells firstOps).toArray 61)
  unfold World.cell?
  simp only [h, Nat.zero_add]
  have := opsCells_at _ k o j v hk hj
  simpa using this

/-- a step that leaves a queue -/
theorem step_pos {B : Int} (h0B : 0 ≤ B) (hlm : B ≤ 3999999999999940000) (wb : Nat) (c d : Conf) (M : Int) (hM : 1 ≤ M ∧ M ≤ 12) (ps : List Nat) (q q' : Nat) (kind qu : Int) (nm bd : ByteArray) (n tr ms : Int) (yes : Bool) (w : World) (T : Nat → Tag) (hw : WT X B w T wb c d M ps q q') (hn : i64 n) (hqu : i64 qu) (hpos : 0 < ps.length ∨ (kind = 1 ∧ goodC (selC n c d) = true)) (hlen : ps.length + 1 ≤ 17592186044416) (hq : q ≤ 900000000) (hq' : q' ≤ 900000000) :
    Calls Try.prog 20 #[.pointer (some ⟨wb, 0, none⟩), .agg (opCells kind qu nm bd n tr ms yes)] w fun e w' => e = .returned (.bool true) ∧ ∃ T' ps' q1 q1', Step (fun t => t ≠ .old) w T w' T' ∧ WT X (B + 60000) w' T' wb c d M ps' q1 q1' ∧ 0 < ps'.length ∧ ps'.length ≤ ps.length + 1 ∧ q1 ≤ q + 2 ∧ q1' ≤ q' + 2 := by
  rcases hpos with hpos | ⟨rfl, hg⟩
  · refine (step_any h0B hlm wb c d M hM ps q q' kind qu nm bd n tr ms yes w T hw hn hqu (.inr hpos) hlen hq hq').mono ?_
    rintro e w' ⟨rfl, T', ps', q1, q1', hs, hw', e1, e2, e3, e4⟩
    exact ⟨rfl, T', ps', q1, q1', hs, hw', by omega, e2, e3, e4⟩
  · refine (stepT_open (xc B hlm) h0B wb c d M hM ps q q' qu nm bd n tr ms yes w T hw hn hlen).mono ?_
    rintro e w' ⟨rfl, T', ps', hs, hw', e1, e2, e3⟩
    have := e3 hg
    exact ⟨rfl, T', ps', q, q', hs, hw'.mono (by omega), by omega, e2, by omega, by omega⟩

theorem notOld_world {S : Tag → Prop} {w w' : World} {T T' : Nat → Tag} (h : Step S w T w' T') (hS : ¬ S .old) : Step (fun t => t ≠ .old) w T w' T' := h.mono (fun t ht e => hS (by rw [← e]; exact ht))

end Go.Proofs.Ytgcbooflhdjnhaa

/- The contract of asked over the program's queue. -/
import Derived.Test.YtockkceclkcgbaaGreatDoorT41
import Derived.ProofKit
import Derived.Deep.Slices
import Derived.Lib.SmallJoins
import Derived.OpenShut
namespace Go.Proofs.YtockkceclkcgbaaGreatDoor
open Go.RowKit

/-- what is seen of a pair's document queue: it has gn groups -/
def Seen (w : World) (p gn : Nat) : Prop := ∃ yb ao cap, p < w.heap.size ∧ w.cell? ⟨p, 1, none⟩ = some (.pointer (some ⟨yb, 0, none⟩)) ∧ yb < w.heap.size ∧ w.cell? ⟨yb, 6, none⟩ = some (.slice ao gn cap) ∧ gn ≤ 6 ∧
    ∀ k, k < gn → ∃ gb nm, ao = some ⟨gb, 0, none⟩ ∧ gb < w.heap.size ∧ w.cell? ⟨gb, k * 4, none⟩ = some (.string nm)
theorem PairM.see {B : Int} {m : MQ} {w : World} {T : Nat → Tag} {i p : Nat} (h : PairM X B m w T i p) : Seen w p m.rq.groups.length := by
  obtain ⟨bx, yb, vs, lg, hB, hx, hy, hf⟩ := h
  obtain ⟨h1, h2, h3, vB, vG, vi, vd, hY, hR, hG, hI⟩ := hy
  obtain ⟨ao, cap, rfl⟩ := row_form hG
  refine ⟨yb, ao, cap, hB.lt, hB.cell (j := 1) rfl, hY.lt, hY.cell (j := 6) rfl, h2, fun k hk => ?_⟩
  obtain ⟨gb, gc, e⟩ := row_some hG (by omega)
  simp only [Value.slice.injEq] at e
  obtain ⟨rfl, _, _⟩ := e
  obtain ⟨g, hg⟩ : ∃ g, m.rq.groups[k]? = some g := ⟨_, List.getElem?_eq_getElem hk⟩
  exact ⟨gb, g.name, rfl, hG.lt, hG.cell (groupCells_at _ vi vd k g hg).1⟩

theorem toldW_done {B Bm : Int} (hX : XC X Bm) (hle : B ≤ Bm) (wb : Nat) (c d : Conf) (most : Int) (ps : List Nat) (q q' k p : Nat) (s : ByteArray) (m : MQ) (w : World) (T : Nat → Tag) (hw : WT X B w T wb c d most ps q q') (hk : ps[k]? = some p) (hm : PairM X B m w T k p) (hq : q ≤ 900000000) :
    Calls Tryz.prog 17 #[.pointer (some ⟨wb, 0, none⟩), .pointer (some ⟨p, 0, none⟩), .int .i64 9, .string s] w fun e w' => CallPost X B w T wb c d most ps q q' e w' ∧ Seen w' p m.rq.groups.length := by
  obtain ⟨⟨vP, vr, vd, h1, h2, h3, h4⟩, h5⟩ := hw
  refine (told_doneM hX hle k p wb _ vr q s m w T hm h1 rfl h3 hq).mono ?_
  rintro e w' ⟨rfl, T', vr', hs, hp', hW, hR⟩
  exact ⟨post_done hX (Int.le_refl _) h2 h4 h5 hk hs hp'.pair hW hR, hp'.see⟩
theorem toldW_dead {B Bm : Int} (hX : XC X Bm) (hle : B ≤ Bm) (wb : Nat) (c d : Conf) (most : Int) (ps : List Nat) (q q' k p : Nat) (s : ByteArray) (w : World) (T : Nat → Tag) (hw : WT X B w T wb c d most ps q q') (hk : ps[k]? = some p) (hq' : q' ≤ 900000000) :
    Calls Tryz.prog 17 #[.pointer (some ⟨wb, 0, none⟩), .pointer (some ⟨p, 0, none⟩), .int .i64 10, .string s] w (CallPost X B w T wb c d most ps q q') := by
  obtain ⟨⟨vP, vr, vd, h1, h2, h3, h4⟩, h5⟩ := hw
  refine (told_dead hX hle k p wb _ vd q' s w T (h5 k p hk) h1 rfl h4 hq').mono ?_
  rintro e w' ⟨rfl, T', vd', hs, hp', hW, hD⟩
  exact post_dead hX (Int.le_refl _) h2 h3 h5 hk hs hp' hW hD
theorem toldW_span {B Bm : Int} (hX : XC X Bm) (hle : B ≤ Bm) (wb : Nat) (c d : Conf) (most : Int) (ps : List Nat) (q q' k p : Nat) (s : ByteArray) (w : World) (T : Nat → Tag) (hw : WT X B w T wb c d most ps q q') (hk : ps[k]? = some p) :
    Calls Tryz.prog 17 #[.pointer (some ⟨wb, 0, none⟩), .pointer (some ⟨p, 0, none⟩), .int .i64 11, .string s] w (CallPost X B w T wb c d most ps q q') := by
  refine (told_spanT hX hle k p _ s w T (hw.prs k p hk)).mono ?_
  rintro e w' ⟨rfl, T', hs, hp'⟩
  exact post_queues hX (Int.le_refl _) hw hk (hs.mono (fun _ h => .inl h)) hp'

/-- what is seen of the law's world -/
theorem WT.see {B : Int} {w : World} {T : Nat → Tag} {wb : Nat} {c d : Conf} {most : Int} {ps : List Nat} {q q' : Nat} (h : WT X B w T wb c d most ps q q') : ∃ ao cap, wb < w.heap.size ∧ w.cell? ⟨wb, 8, none⟩ = some (.slice ao ps.length cap) ∧
    ∀ k p, ps[k]? = some p → ∃ gb, ao = some ⟨gb, 0, none⟩ ∧ gb < w.heap.size ∧ w.cell? ⟨gb, k, none⟩ = some (.pointer (some ⟨p, 0, none⟩)) := by
  obtain ⟨⟨vP, vr, vd, h1, h2, h3, h4⟩, h5⟩ := h
  obtain ⟨ao, cap, rfl⟩ := row_form h2
  refine ⟨ao, cap, h1.lt, h1.cell (j := 8) rfl, fun k p hk => ?_⟩
  have hlt := (List.getElem?_eq_some_iff.1 hk).1
  obtain ⟨gb, gc, e⟩ := row_some h2 (by omega)
  simp only [Value.slice.injEq] at e
  obtain ⟨rfl, _, _⟩ := e
  exact ⟨gb, rfl, h2.lt, h2.cell (by simp [hk, ptrV])⟩

theorem wholeW {B : Int} (wb : Nat) (c d : Conf) (most : Int) (ps : List Nat) (q q' : Nat) (w : World) (T : Nat → Tag) (hw : WT X B w T wb c d most ps q q') (hq : q ≤ 1000000000) (hq' : q' ≤ 1000000000) :
    Calls Tryz.prog 53 #[.pointer (some ⟨wb, 9, none⟩)] w fun e w' => e = .returned (.bool true) ∧ Below w.heap.size w w' := by
  obtain ⟨⟨vP, vr, vd, h1, h2, h3, h4⟩, h5⟩ := hw
  exact wholeT_any w T wb _ q q' vr vd h1 rfl rfl h3 h4 hq hq'

set_option maxRecDepth 100000 in
set_option maxHeartbeats 4000000 in
theorem asked_any {B Bm : Int} (hX : XC X Bm) (hle : B ≤ Bm) (wb : Nat) (c d : Conf) (most : Int) (ps : List Nat) (q q' : Nat) (w : World) (T : Nat → Tag) (hw : WT X B w T wb c d most ps q q') (hlen : ps.length ≤ 10000000) (hq : q ≤ 500000000) (hq' : q' ≤ 500000000) :
    Calls Tryz.prog 54 #[.pointer (some ⟨wb, 0, none⟩)] w fun e w' => e = .returned (.bool true) ∧ ∃ T', Step (fun t => t ≠ .old) w T w' T' := by
  go_enter Tryz.func54, Tryz.ntmps54
  go_wp2_with fail
  go_loopw [3] (fun x wr => ∃ (k : Nat) (T1 : Nat → Tag) (q1 q1' : Nat), k ≤ ps.length ∧ x = .int .i64 k ∧ Step (fun t => t ≠ .old) w T wr T1 ∧ WT X B wr T1 wb c d most ps q1 q1' ∧ q1 ≤ q + 26 * k ∧ q1' ≤ q' + 26 * k) (fun x _ => ps.length - (intOf x).toNat)
  case atStart => exact ⟨0, T, q, q', Nat.zero_le _, rfl, Step.refl _ _ _, hw, by omega, by omega⟩
  case round =>
    obtain ⟨k, T1, q1, q1', hk, rfl, hs1, hw1, g1, g1'⟩ := hrel
    clear hw
    obtain ⟨ao, cap, lw, c8, hrow⟩ := hw1.see
    by_cases hlt : k < ps.length
    · obtain ⟨p, hp⟩ : ∃ p, ps[k]? = some p := ⟨_, List.getElem?_eq_getElem hlt⟩
      obtain ⟨gb, rfl, lg, cp⟩ := hrow k p hp
      clear hrow
      go_wp2_with fail
      refine (toldW_span hX hle wb c d most ps q1 q1' k p _ _ T1 hw1 hp).mono ?_
      rintro e w2 ⟨rfl, T2, q2, q2', hs2, hw2, g2, g2'⟩
      replace hs2 := hs1.trans hs2
      clear hw1 hs1 c8 cp lw lg
      go_wp2_with fail
      go_loopw [5, 6] (fun o x wr => ∃ (j : Nat) (T3 : Nat → Tag) (q3 q3' : Nat), j ≤ 6 ∧ o = .bool true ∧ x = .int .i64 j ∧ Step (fun t => t ≠ .old) w T wr T3 ∧ WT X B wr T3 wb c d most ps q3 q3' ∧ q3 ≤ q + 26 * k + 2 + 4 * j ∧ q3' ≤ q' + 26 * k + 2 + 4 * j) (fun _ x _ => 6 - (intOf x).toNat)
      case atStart => exact ⟨0, T2, q2, q2', Nat.zero_le _, rfl, rfl, hs2, hw2, by omega, by omega⟩
      case round =>
        obtain ⟨j, T3, q3, q3', hj, rfl, rfl, hs3, hw3, g3, g3'⟩ := hrel
        clear hw2 hs2 g2 g2' g1 g1'
        obtain ⟨m, hm⟩ := pairM_of (hw3.prs k p hp)
        obtain ⟨yb, ao, cap, lp, p1, ly, y6, h6, hgr⟩ := hm.see
        have hld := toldW_done hX hle wb c d most ps q3 q3' k p
        have hm' := hm
        clear hm
        by_cases hjt : j < m.rq.groups.length
        · obtain ⟨hb, nm, rfl, lh, cn⟩ := hgr j hjt
          clear hgr
          replace hld := hld nm m _ T3 hw3 hp hm' (by omega)
          generalize m.rq.groups.length = gn at *
          go_wp2_with fail
          refine hld.mono ?_
          rintro e w4 ⟨⟨rfl, T4, q4, q4', hs4, hw4, g4, g4'⟩, yb4, ao4, cap4, lp4, p4, ly4, y4, _, hgr4⟩
          obtain ⟨hb4, nm4, rfl, lh4, cn4⟩ := hgr4 j hjt
          clear hld hw3 lp p1 ly y6 lh cn hgr4
          go_wp2_with fail
          refine (toldW_dead hX hle wb c d most ps q4 q4' k p nm4 _ T4 hw4 hp (by omega)).mono ?_
          rintro e w5 ⟨rfl, T5, q5, q5', hs5, hw5, g5, g5'⟩
          clear lp4 p4 ly4 y4 lh4 cn4 hw4
          go_wp2
          refine ⟨⟨j + 1, T5, q5, q5', by omega, by first | rfl | simp, by simp, (hs3.trans hs4).trans hs5, hw5, by omega, by omega⟩, by simp [intOf]; omega⟩
        · clear hgr hld hm'
          generalize m.rq.groups.length = gn at *
          go_wp2
          refine ⟨⟨k + 1, T3, q3, q3', by omega, by simp, hs3, hw3, by omega, by omega⟩, by simp [intOf]; omega⟩
    · clear hrow
      go_wp2_with fail
      refine (wholeW wb c d most ps q1 q1' _ T1 hw1 (by omega) (by omega)).mono ?_
      rintro e w2 ⟨rfl, hb2⟩
      go_wp2
      go_ret
      exact ⟨by first | rfl | simp, T1, hs1.trans (step_below _ T1 hb2)⟩

end Go.Proofs.YtockkceclkcgbaaGreatDoor

/- The script among the arguments; the law's world as UpTo lays it first; a step that leaves a queue. -/
namespace Go.Proofs.YtockkceclkcgbaaGreatDoor
open Go.RowKit

/-- A step of the script. -/
structure OpV where
  kind : Int
  qu : Int
  nm : ByteArray
  bd : ByteArray
  n : Int
  tr : Int
  ms : Int
  yes : Bool

abbrev OpV.cells (o : OpV) : Array Value := opCells o.kind o.qu o.nm o.bd o.n o.tr o.ms o.yes

/-- The script among the arguments. -/
def ArgO (w : World) (ao : Option Addr) (l : List OpV) : Prop := ∀ k o, l[k]? = some o → i64 o.qu ∧ i64 o.n ∧ ∃ b off, ao = some ⟨b, off, none⟩ ∧ b < w.heap.size ∧ ∀ j v, o.cells[j]? = some v → w.cell? ⟨b, off + k * 8 + j, none⟩ = some v

theorem WT.conf0 {B Bm : Int} (hX : XC X Bm) {w : World} {T : Nat → Tag} {wb : Nat} {c d : Conf} {most : Int} {ps : List Nat} {q q' : Nat} (h : WT X B w T wb c d most ps q q') (c' : Conf) : WT X B ((((w.setCell ⟨wb, 0, none⟩ (.int .i64 c'.l)).setCell ⟨wb, 1, none⟩ (.int .i64 c'.d)).setCell ⟨wb, 2, none⟩ (.int .i64 c'.s)).setCell ⟨wb, 3, none⟩ (.int .i64 c'.k)) T wb c' d most ps q q' ∧
    Step (fun t => t = .world) w T ((((w.setCell ⟨wb, 0, none⟩ (.int .i64 c'.l)).setCell ⟨wb, 1, none⟩ (.int .i64 c'.d)).setCell ⟨wb, 2, none⟩ (.int .i64 c'.s)).setCell ⟨wb, 3, none⟩ (.int .i64 c'.k)) T := by
  obtain ⟨⟨vP, vr, vd, hB, hR, hr, hd⟩, hp⟩ := h
  have hs : Step (fun t => t = .world) w T ((((w.setCell ⟨wb, 0, none⟩ (.int .i64 c'.l)).setCell ⟨wb, 1, none⟩ (.int .i64 c'.d)).setCell ⟨wb, 2, none⟩ (.int .i64 c'.s)).setCell ⟨wb, 3, none⟩ (.int .i64 c'.k)) T :=
    (((step_setCell w T wb 0 _ (S := fun t => t = .world) hB.1).trans (step_setCell _ T wb 1 _ (S := fun t => t = .world) hB.1)).trans (step_setCell _ T wb 2 _ (S := fun t => t = .world) hB.1)).trans (step_setCell _ T wb 3 _ (S := fun t => t = .world) hB.1)
  exact ⟨⟨⟨vP, vr, vd, (((hB.set 0 _).set 1 _).set 2 _).set 3 _, hR.step hs (by simp), hr.step hs (by simp) (by simp), hd.step hs (by simp) (by simp)⟩, fun i p hi => (hp i p hi).step hX hs (by simp) (by rintro t h1 rfl; exact absurd h1.1 (by simp)) (by simp)⟩, hs⟩
theorem WT.conf1 {B Bm : Int} (hX : XC X Bm) {w : World} {T : Nat → Tag} {wb : Nat} {c d : Conf} {most : Int} {ps : List Nat} {q q' : Nat} (h : WT X B w T wb c d most ps q q') (c' : Conf) : WT X B ((((w.setCell ⟨wb, 4, none⟩ (.int .i64 c'.l)).setCell ⟨wb, 5, none⟩ (.int .i64 c'.d)).setCell ⟨wb, 6, none⟩ (.int .i64 c'.s)).setCell ⟨wb, 7, none⟩ (.int .i64 c'.k)) T wb c c' most ps q q' ∧
    Step (fun t => t = .world) w T ((((w.setCell ⟨wb, 4, none⟩ (.int .i64 c'.l)).setCell ⟨wb, 5, none⟩ (.int .i64 c'.d)).setCell ⟨wb, 6, none⟩ (.int .i64 c'.s)).setCell ⟨wb, 7, none⟩ (.int .i64 c'.k)) T := by
  obtain ⟨⟨vP, vr, vd, hB, hR, hr, hd⟩, hp⟩ := h
  have hs : Step (fun t => t = .world) w T ((((w.setCell ⟨wb, 4, none⟩ (.int .i64 c'.l)).setCell ⟨wb, 5, none⟩ (.int .i64 c'.d)).setCell ⟨wb, 6, none⟩ (.int .i64 c'.s)).setCell ⟨wb, 7, none⟩ (.int .i64 c'.k)) T :=
    (((step_setCell w T wb 4 _ (S := fun t => t = .world) hB.1).trans (step_setCell _ T wb 5 _ (S := fun t => t = .world) hB.1)).trans (step_setCell _ T wb 6 _ (S := fun t => t = .world) hB.1)).trans (step_setCell _ T wb 7 _ (S := fun t => t = .world) hB.1)
  exact ⟨⟨⟨vP, vr, vd, (((hB.set 4 _).set 5 _).set 6 _).set 7 _, hR.step hs (by simp), hr.step hs (by simp) (by simp), hd.step hs (by simp) (by simp)⟩, fun i p hi => (hp i p hi).step hX hs (by simp) (by rintro t h1 rfl; exact absurd h1.1 (by simp)) (by simp)⟩, hs⟩

def conf0 : Conf := ⟨10, 2, 2, 5⟩
def confZ : Conf := ⟨0, 0, 0, 0⟩
def letterA : ByteArray := ⟨#[97]⟩
def letterG : ByteArray := ⟨#[103]⟩
def nought : ByteArray := ⟨#[]⟩

/-- the law's world as it is laid first: two configurations of the caller's in blocks of their own, the world behind them -/
theorem law_start (c d : Conf) (most : Int) (w : World) : ∃ T, Step (fun _ => False) w (fun _ => .old) (((w.alloc (.cells c.cells 23)).alloc (.cells d.cells 23)).alloc (.cells (wtCells conf0 confZ (.slice none 0 0) (.slice none 0 0) (.slice none 0 0) most) 33)) T ∧
    WT X 0 (((w.alloc (.cells c.cells 23)).alloc (.cells d.cells 23)).alloc (.cells (wtCells conf0 confZ (.slice none 0 0) (.slice none 0 0) (.slice none 0 0) most) 33)) T (w.heap.size + 2) conf0 confZ most [] 0 0 ∧
    Blk (((w.alloc (.cells c.cells 23)).alloc (.cells d.cells 23)).alloc (.cells (wtCells conf0 confZ (.slice none 0 0) (.slice none 0 0) (.slice none 0 0) most) 33)) T .old w.heap.size c.cells 23 ∧
    Blk (((w.alloc (.cells c.cells 23)).alloc (.cells d.cells 23)).alloc (.cells (wtCells conf0 confZ (.slice none 0 0) (.slice none 0 0) (.slice none 0 0) most) 33)) T .old (w.heap.size + 1) d.cells 23 := by
  have a1 := step_new w (fun _ => .old) (.cells c.cells 23) .old (fun _ => False)
  have b1 := blk_new w (fun _ => .old) c.cells 23 .old
  generalize hw1 : w.alloc (.cells c.cells 23) = w1 at *
  have s1 : w1.heap.size = w.heap.size + 1 := by rw [← hw1]; simp
  generalize retag (fun _ => Tag.old) w.heap.size .old = T1 at *
  have a2 := step_new w1 T1 (.cells d.cells 23) .old (fun _ => False)
  have b2 := blk_new w1 T1 d.cells 23 .old
  have b1' := b1.step a2 (fun h => h)
  rw [s1] at b2
  rw [s1] at a2 b1'
  generalize hw2 : w1.alloc (.cells d.cells 23) = w2 at *
  have s2 : w2.heap.size = w.heap.size + 2 := by rw [← hw2]; simp [s1]
  generalize retag T1 (w.heap.size + 1) .old = T2 at *
  have a3 := step_new w2 T2 (.cells (wtCells conf0 confZ (.slice none 0 0) (.slice none 0 0) (.slice none 0 0) most) 33) .world (fun _ => False)
  have b3 := blk_new w2 T2 (wtCells conf0 confZ (.slice none 0 0) (.slice none 0 0) (.slice none 0 0) most) 33 .world
  refine ⟨_, (a1.trans a2).trans a3, ⟨⟨.slice none 0 0, .slice none 0 0, .slice none 0 0, ?_, row_nil _ _ _ _ _, bk_nil _ _ _ _ _ _, bk_nil _ _ _ _ _ _⟩, fun i p h => by simp at h⟩, b1'.step a3 (fun h => h), b2.step a3 (fun h => h)⟩
  rw [s2] at b3
  rw [s2]
  exact b3

/-- the cells of a row of steps -/
def opsCells : List OpV → List Value
  | [] => []
  | o :: r => o.cells.toList ++ opsCells r
theorem opsCells_at : ∀ (l : List OpV) (k : Nat) (o : OpV) (j : Nat) (v : Value), l[k]? = some o → o.cells[j]? = some v → (opsCells l)[k * 8 + j]? = some v
  | [], _, _, _, _, h, _ => by simp at h
  | x :: r, 0, o, j, v, h, hj => by
    simp only [List.getElem?_cons_zero, Option.some.injEq] at h
    subst h
    have hlt : j < x.cells.toList.length := by
      rcases Nat.lt_or_ge j x.cells.size with h | h
      · simpa using h
      · rw [Array.getElem?_eq_none h] at hj; cases hj
    rw [Nat.zero_mul, Nat.zero_add, opsCells, List.getElem?_append_left hlt]
    simpa using hj
  | x :: r, k + 1, o, j, v, h, hj => by
    have h2 := opsCells_at r k o j v (by simpa using h) hj
    have e : x.cells.toList.length = 8 := rfl
    rw [opsCells, List.getElem?_append_right (by rw [e]; omega), e, show (k + 1) * 8 + j - 8 = k * 8 + j by omega]
    exact h2

def firstOps : List OpV := [⟨1, 0, nought, nought, 0, 0, 0, false⟩, ⟨2, 0, nought, letterA, 0, 0, 0, false⟩, ⟨3, 0, letterG, nought, 0, 0, 0, false⟩, ⟨4, 0, letterG, nought, 9, 0, 0, false⟩, ⟨5, 0, letterG, nought, 0, 0, 0, false⟩, ⟨9, 0, letterG, nought, 0, 0, 0, false⟩]

theorem firstOps_i64 : ∀ o ∈ firstOps, i64 o.qu ∧ i64 o.n := by
  intro o ho
  simp only [firstOps, List.mem_cons, List.not_mem_nil, or_false] at ho
  rcases ho with rfl | rfl | rfl | rfl | rfl | rfl <;> exact ⟨⟨by decide, by decide⟩, ⟨by decide, by decide⟩⟩

/-- the first steps' own row -/
theorem first_arg (w : World) : ArgO (w.alloc (.cells (opsCells firstOps).toArray 46)) (some ⟨w.heap.size, 0, none⟩) firstOps := by
  intro k o hk
  obtain ⟨h1, h2⟩ := firstOps_i64 o (List.mem_of_getElem? hk)
  refine ⟨h1, h2, w.heap.size, 0, rfl, by simp, fun j v hj => ?_⟩
  have h := heap_alloc_new w (.cells (opsCells firstOps).toArray 46)
  unfold World.cell?
  simp only [h, Nat.zero_add]
  have := opsCells_at _ k o j v hk hj
  simpa using this

/-- a step that leaves a queue -/
theorem step_pos {B : Int} (h0B : 0 ≤ B) (hlm : B ≤ 3999999999999940000) (wb : Nat) (c d : Conf) (M : Int) (hM : 1 ≤ M ∧ M ≤ 12) (ps : List Nat) (q q' : Nat) (kind qu : Int) (nm bd : ByteArray) (n tr ms : Int) (yes : Bool) (w : World) (T : Nat → Tag) (hw : WT X B w T wb c d M ps q q') (hn : i64 n) (hqu : i64 qu) (hpos : 0 < ps.length ∨ (kind = 1 ∧ goodC (selC n c d) = true)) (hlen : ps.length + 1 ≤ 17592186044416) (hq : q ≤ 900000000) (hq' : q' ≤ 900000000) :
    Calls Tryz.prog 16 #[.pointer (some ⟨wb, 0, none⟩), .agg (opCells kind qu nm bd n tr ms yes)] w fun e w' => e = .returned (.bool true) ∧ ∃ T' ps' q1 q1', Step (fun t => t ≠ .old) w T w' T' ∧ WT X (B + 60000) w' T' wb c d M ps' q1 q1' ∧ 0 < ps'.length ∧ ps'.length ≤ ps.length + 1 ∧ q1 ≤ q + 2 ∧ q1' ≤ q' + 2 := by
  rcases hpos with hpos | ⟨rfl, hg⟩
  · refine (step_any h0B hlm wb c d M hM ps q q' kind qu nm bd n tr ms yes w T hw hn hqu (.inr hpos) hlen hq hq').mono ?_
    rintro e w' ⟨rfl, T', ps', q1, q1', hs, hw', e1, e2, e3, e4⟩
    exact ⟨rfl, T', ps', q1, q1', hs, hw', by omega, e2, e3, e4⟩
  · refine (stepT_open (xc B hlm) h0B wb c d M hM ps q q' qu nm bd n tr ms yes w T hw hn hlen).mono ?_
    rintro e w' ⟨rfl, T', ps', hs, hw', e1, e2, e3⟩
    have := e3 hg
    exact ⟨rfl, T', ps', q, q', hs, hw'.mono (by omega), by omega, e2, by omega, by omega⟩

theorem notOld_world {S : Tag → Prop} {w w' : World} {T T' : Nat → Tag} (h : Step S w T w' T') (hS : ¬ S .old) : Step (fun t => t ≠ .old) w T w' T' := h.mono (fun t ht e => hS (by rw [← e]; exact ht))

end Go.Proofs.YtockkceclkcgbaaGreatDoor

/- The arguments of Opens and Taken, opened. -/
namespace Go.Proofs.YtockkceclkcgbaaGreatDoor
open Go.ChangeShapes Go.WideShapes Go.ChangeAt Go.RowKit

theorem ArgO.below {w w' : World} {ao : Option Addr} {l : List OpV} (h : ArgO w ao l) (hb : Below w.heap.size w w') : ArgO w' ao l := by
  intro k o hk
  obtain ⟨h1, h2, b, off, rfl, hlt, hc⟩ := h k o hk
  exact ⟨h1, h2, b, off, rfl, Nat.lt_of_lt_of_le hlt hb.size, fun j v hj => (hb.cell (p := ⟨b, off + k * 8 + j, none⟩) hlt).trans (hc j v hj)⟩

theorem bulk_one {H : Type} (d : DataW H) : 1 ≤ Rows.uptoBulk d := by
  cases d with
  | lit l => cases l <;> simp [Rows.uptoBulk]
  | nil => simp [Rows.uptoBulk]
  | ptr d => simp [Rows.uptoBulk]
  | slice elems spare => simp [Rows.uptoBulk]
  | agg parts => simp [Rows.uptoBulk]
  | iface t d => simp [Rows.uptoBulk]
  | map entries => simp [Rows.uptoBulk]
  | held h => simp [Rows.uptoBulk]

theorem bulk_length {H : Type} (l : List (DataW H)) : l.length ≤ Rows.uptoBulkAll l := by
  induction l with
  | nil => simp [Rows.uptoBulkAll]
  | cons x r ih => have := bulk_one x; simp only [Rows.uptoBulkAll, List.length_cons]; omega

theorem bulk_slice {H : Type} (elems spare : List (DataW H)) : elems.length ≤ Rows.uptoBulk (.slice elems spare) := by
  have := bulk_length elems
  simp only [Rows.uptoBulk]; omega

theorem Tryz.own : ownKnob Tryz.prog.godebug = none := by kernel_rfl
theorem Tryz.laidOut : laidOutB Tryz.prog = true := by kernel_rfl
theorem Tryz.cells3 : Tryz.prog.cellsOf 3 = 1 := by kernel_rfl
theorem Tryz.cells4 : Tryz.prog.cellsOf 4 = 1 := by kernel_rfl
theorem Tryz.cells9 : Tryz.prog.cellsOf 9 = 1 := by kernel_rfl
theorem Tryz.cells23 : Tryz.prog.cellsOf 23 = 4 := by kernel_rfl
theorem Tryz.cells46 : Tryz.prog.cellsOf 46 = 8 := by kernel_rfl

theorem i64_of_wf {n : Int} (h : (Lit.int .i64 n).wf = true) : i64 n := by
  simp [Lit.wf, IntKind.min, IntKind.max, IntKind.signed, IntKind.bits] at h
  unfold i64
  omega

set_option maxRecDepth 100000 in
/-- A configuration among the arguments, opened. -/
theorem open_conf {H : Type} {enc : TypeId × Value → H} {W : World} {b0 : Nat} {v : Value} {d : DataW H} {p : List MemPlace} (hv : Value.okWide Tryz.prog W .any b0 23 v) (h : DataW.Trod enc Tryz.prog W 0 (fun _ => true) true 23 v d p) :
    ∃ c : Conf, v = .agg c.cells := by
  obtain ⟨c0, c1, c2, c3, y0, y1, y2, y3, n, rfl, _, _, h0, h1, h2, h3⟩ := Joins.open_agg4 Tryz.underlying23 (by kernel_rfl) Tryz.cells23 hv h
  obtain ⟨a0, e0, _, _⟩ := DataW.trod_int Tryz.underlying3 h0
  obtain ⟨a1, e1, _, _⟩ := DataW.trod_int Tryz.underlying3 h1
  obtain ⟨a2, e2, _, _⟩ := DataW.trod_int Tryz.underlying3 h2
  obtain ⟨a3, e3, _, _⟩ := DataW.trod_int Tryz.underlying3 h3
  simp only [List.cons.injEq, and_true] at e0 e1 e2 e3
  exact ⟨⟨a0, a1, a2, a3⟩, by rw [e0, e1, e2, e3]⟩

set_option maxRecDepth 100000 in
/-- The script among the arguments, opened. -/
theorem open_ops {H : Type} {enc : TypeId × Value → H} {W : World} {v : Value} {d : DataW H} {p : List MemPlace} {fuel : Nat} {a0 : Option Addr} {len cap : Nat} (hv : v = .slice a0 len cap)
    (hf : DataW.trod enc Tryz.prog W 0 (fun _ => true) true fuel 24 v.cells.toList = some (d, p)) :
    ∃ l : List OpV, len = l.length ∧ ArgO W a0 l ∧ (l.length = 0 ∨ ∃ xs ys, d = .slice xs ys ∧ xs.length = l.length) := by
  subst hv
  rcases Deep.open_slice Tryz.underlying24 hf with ⟨hcs, _⟩ | ⟨a, len', cap', m, n, D, Pl, hcs, _, hl, hm, hmm, hx, hel⟩
  · simp [Value.cells] at hcs
    obtain ⟨rfl, rfl, rfl⟩ := hcs
    exact ⟨[], rfl, fun k o h => by simp at h, .inl rfl⟩
  · simp [Value.cells] at hcs
    obtain ⟨rfl, rfl, rfl⟩ := hcs
    have hlm : len ≤ m := by rw [hmm]; split <;> omega
    have each : ∀ i, i < m → ∃ o : OpV, i64 o.qu ∧ i64 o.n ∧ ∀ j u, o.cells[j]? = some u → W.cell? (a.add (i * 8 + j)) = some u := by
      intro i hi
      obtain ⟨cs', h1, h2⟩ := hel i hi
      rw [Tryz.cells46] at h1
      obtain ⟨_, hlen, hcell⟩ := World.cells?_some h1
      obtain ⟨xs, k, _, _, _, hxl, hfd⟩ := DataW.trod_struct Tryz.underlying46 h2
      match xs, hxl, cs', hlen with
      | [y0, y1, y2, y3, y4, y5, y6, y7], _, [v0, v1, v2, v3, v4, v5, v6, v7], _ =>
        have g0 := hfd 0 _ rfl
        have g1 := hfd 1 _ rfl
        have g2 := hfd 2 _ rfl
        have g3 := hfd 3 _ rfl
        have g4 := hfd 4 _ rfl
        have g5 := hfd 5 _ rfl
        have g6 := hfd 6 _ rfl
        have g7 := hfd 7 _ rfl
        simp [Tryz.cells3, Tryz.cells4, Tryz.cells9] at g0 g1 g2 g3 g4 g5 g6 g7
        obtain ⟨a0, e0, _, _⟩ := DataW.trod_int Tryz.underlying3 g0
        obtain ⟨a1, e1, _, w1⟩ := DataW.trod_int Tryz.underlying3 g1
        obtain ⟨a2, e2, _, _⟩ := DataW.trod_string Tryz.underlying9 g2
        obtain ⟨a3, e3, _, _⟩ := DataW.trod_string Tryz.underlying9 g3
        obtain ⟨a4, e4, _, w4⟩ := DataW.trod_int Tryz.underlying3 g4
        obtain ⟨a5, e5, _, _⟩ := DataW.trod_int Tryz.underlying3 g5
        obtain ⟨a6, e6, _, _⟩ := DataW.trod_int Tryz.underlying3 g6
        obtain ⟨a7, e7, _⟩ := DataW.trod_bool Tryz.underlying4 g7
        simp only [List.cons.injEq, and_true] at e0 e1 e2 e3 e4 e5 e6 e7
        subst e0 e1 e2 e3 e4 e5 e6 e7
        refine ⟨⟨a0, a1, a2, a3, a4, a5, a6, a7⟩, i64_of_wf w1, i64_of_wf w4, fun j u hj => ?_⟩
        have hj8 : j < 8 := by
          rcases Nat.lt_or_ge j 8 with h | h
          · exact h
          · rw [Array.getElem?_eq_none (by simpa using h)] at hj; cases hj
        have hc := hcell j (by omega)
        rw [Deep.add_add] at hc
        rw [hc]
        simpa using hj
    have hpick : ∃ f : Nat → OpV, ∀ i, i < m → i64 (f i).qu ∧ i64 (f i).n ∧ ∀ j u, (f i).cells[j]? = some u → W.cell? (a.add (i * 8 + j)) = some u := by
      haveI : Inhabited OpV := ⟨⟨0, 0, ⟨#[]⟩, ⟨#[]⟩, 0, 0, 0, false⟩⟩
      exact Deep.choose_lt each
    obtain ⟨f, hf2⟩ := hpick
    refine ⟨(List.range len).map f, by simp, fun k o hk => ?_, .inr ⟨_, _, (Prod.mk.inj hx).1, by simp⟩⟩
    have hkl : k < len := by
      have := (List.getElem?_eq_some_iff.1 hk).1
      simpa using this
    have ho : o = f k := by
      simp [hkl] at hk
      exact hk.symm
    subst ho
    obtain ⟨r1, r2, r3⟩ := hf2 k (by omega)
    refine ⟨r1, r2, ?_⟩
    have h1 := (hf2 0 (by omega)).2.2 0 _ rfl
    have hs : a.spot = none ∧ a.block < W.heap.size := by
      simp only [Nat.zero_mul, Nat.add_zero, Addr.add, if_true] at h1
      unfold World.cell? at h1
      split at h1
      · rename_i c e fz hb
        refine ⟨?_, ?_⟩
        · cases hsp : a.spot with
          | none => rfl
          | some _ => rw [hsp] at h1; simp at h1
        · rcases Nat.lt_or_ge a.block W.heap.size with hlt | hge
          · exact hlt
          · rw [Array.getElem?_eq_none hge] at hb; cases hb
      · cases h1
    obtain ⟨ab, aoff, asp⟩ := a
    obtain ⟨rfl, hb⟩ := hs
    refine ⟨ab, aoff, rfl, hb, fun j u hj => ?_⟩
    have := r3 j u hj
    rw [Addr.add_lit, ← Nat.add_assoc] at this
    exact this

end Go.Proofs.YtockkceclkcgbaaGreatDoor

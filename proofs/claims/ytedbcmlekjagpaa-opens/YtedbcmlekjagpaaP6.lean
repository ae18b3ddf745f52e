/- Opens, walked: it returns true and changes nothing that was there. -/
import Derived.Test.YtedbcmlekjagpaaP5
namespace Go.Proofs.Ytedbcmlekjagpaa
open Go.RowKit

/-- A step of the script. -/
structure OpV where
  kind : Int
  qu : Int
  nm : ByteArray
  bd : ByteArray
  n : Int
  tr : Int
  ms : Int
  yes : Bool

abbrev OpV.cells (o : OpV) : Array Value := opCells o.kind o.qu o.nm o.bd o.n o.tr o.ms o.yes

/-- The script among the arguments. -/
def ArgO (w : World) (ao : Option Addr) (l : List OpV) : Prop := ∀ k o, l[k]? = some o → i64 o.qu ∧ i64 o.n ∧ ∃ b off, ao = some ⟨b, off, none⟩ ∧ b < w.heap.size ∧ ∀ j v, o.cells[j]? = some v → w.cell? ⟨b, off + k * 8 + j, none⟩ = some v

theorem WI.conf0 {w : World} {T : Nat → Tag} {wb : Nat} {c d : Conf} {ps : List Nat} (h : WI w T wb c d ps) (c' : Conf) : WI ((((w.setCell ⟨wb, 0, none⟩ (.int .i64 c'.l)).setCell ⟨wb, 1, none⟩ (.int .i64 c'.d)).setCell ⟨wb, 2, none⟩ (.int .i64 c'.s)).setCell ⟨wb, 3, none⟩ (.int .i64 c'.k)) T wb c' d ps ∧
    Step (fun t => t = .world) w T ((((w.setCell ⟨wb, 0, none⟩ (.int .i64 c'.l)).setCell ⟨wb, 1, none⟩ (.int .i64 c'.d)).setCell ⟨wb, 2, none⟩ (.int .i64 c'.s)).setCell ⟨wb, 3, none⟩ (.int .i64 c'.k)) T := by
  obtain ⟨⟨vP, hB, hR⟩, hp⟩ := h
  have hs : Step (fun t => t = .world) w T ((((w.setCell ⟨wb, 0, none⟩ (.int .i64 c'.l)).setCell ⟨wb, 1, none⟩ (.int .i64 c'.d)).setCell ⟨wb, 2, none⟩ (.int .i64 c'.s)).setCell ⟨wb, 3, none⟩ (.int .i64 c'.k)) T :=
    (((step_setCell w T wb 0 _ (S := fun t => t = .world) hB.1).trans (step_setCell _ T wb 1 _ (S := fun t => t = .world) hB.1)).trans (step_setCell _ T wb 2 _ (S := fun t => t = .world) hB.1)).trans (step_setCell _ T wb 3 _ (S := fun t => t = .world) hB.1)
  exact ⟨⟨⟨vP, (((hB.set 0 _).set 1 _).set 2 _).set 3 _, hR.step hs (by simp)⟩, fun i p hi => (hp i p hi).step hs (by simp) (by simp) (by simp)⟩, hs⟩
theorem WI.conf1 {w : World} {T : Nat → Tag} {wb : Nat} {c d : Conf} {ps : List Nat} (h : WI w T wb c d ps) (c' : Conf) : WI ((((w.setCell ⟨wb, 4, none⟩ (.int .i64 c'.l)).setCell ⟨wb, 5, none⟩ (.int .i64 c'.d)).setCell ⟨wb, 6, none⟩ (.int .i64 c'.s)).setCell ⟨wb, 7, none⟩ (.int .i64 c'.k)) T wb c c' ps ∧
    Step (fun t => t = .world) w T ((((w.setCell ⟨wb, 4, none⟩ (.int .i64 c'.l)).setCell ⟨wb, 5, none⟩ (.int .i64 c'.d)).setCell ⟨wb, 6, none⟩ (.int .i64 c'.s)).setCell ⟨wb, 7, none⟩ (.int .i64 c'.k)) T := by
  obtain ⟨⟨vP, hB, hR⟩, hp⟩ := h
  have hs : Step (fun t => t = .world) w T ((((w.setCell ⟨wb, 4, none⟩ (.int .i64 c'.l)).setCell ⟨wb, 5, none⟩ (.int .i64 c'.d)).setCell ⟨wb, 6, none⟩ (.int .i64 c'.s)).setCell ⟨wb, 7, none⟩ (.int .i64 c'.k)) T :=
    (((step_setCell w T wb 4 _ (S := fun t => t = .world) hB.1).trans (step_setCell _ T wb 5 _ (S := fun t => t = .world) hB.1)).trans (step_setCell _ T wb 6 _ (S := fun t => t = .world) hB.1)).trans (step_setCell _ T wb 7 _ (S := fun t => t = .world) hB.1)
  exact ⟨⟨⟨vP, (((hB.set 4 _).set 5 _).set 6 _).set 7 _, hR.step hs (by simp)⟩, fun i p hi => (hp i p hi).step hs (by simp) (by simp) (by simp)⟩, hs⟩

def conf0 : Conf := ⟨10, 2, 2, 5⟩
def confZ : Conf := ⟨0, 0, 0, 0⟩
def letterA : ByteArray := ⟨#[97]⟩

/-- the law's world as it is laid first: two configurations of the caller's in blocks of their own, the world behind them -/
theorem opens_start (c d : Conf) (w : World) : ∃ T, Step (fun _ => False) w (fun _ => .old) (((w.alloc (.cells c.cells 44)).alloc (.cells d.cells 44)).alloc (.cells #[.int .i64 10, .int .i64 2, .int .i64 2, .int .i64 5, .int .i64 0, .int .i64 0, .int .i64 0, .int .i64 0, .slice none 0 0, .slice none 0 0, .slice none 0 0, .int .i64 3] 50)) T ∧
    WI (((w.alloc (.cells c.cells 44)).alloc (.cells d.cells 44)).alloc (.cells #[.int .i64 10, .int .i64 2, .int .i64 2, .int .i64 5, .int .i64 0, .int .i64 0, .int .i64 0, .int .i64 0, .slice none 0 0, .slice none 0 0, .slice none 0 0, .int .i64 3] 50)) T (w.heap.size + 2) conf0 confZ [] ∧
    Blk (((w.alloc (.cells c.cells 44)).alloc (.cells d.cells 44)).alloc (.cells #[.int .i64 10, .int .i64 2, .int .i64 2, .int .i64 5, .int .i64 0, .int .i64 0, .int .i64 0, .int .i64 0, .slice none 0 0, .slice none 0 0, .slice none 0 0, .int .i64 3] 50)) T .old w.heap.size c.cells 44 ∧
    Blk (((w.alloc (.cells c.cells 44)).alloc (.cells d.cells 44)).alloc (.cells #[.int .i64 10, .int .i64 2, .int .i64 2, .int .i64 5, .int .i64 0, .int .i64 0, .int .i64 0, .int .i64 0, .slice none 0 0, .slice none 0 0, .slice none 0 0, .int .i64 3] 50)) T .old (w.heap.size + 1) d.cells 44 := by
  have a1 := step_new w (fun _ => .old) (.cells c.cells 44) .old (fun _ => False)
  have b1 := blk_new w (fun _ => .old) c.cells 44 .old
  generalize hw1 : w.alloc (.cells c.cells 44) = w1 at *
  have s1 : w1.heap.size = w.heap.size + 1 := by rw [← hw1]; simp
  generalize retag (fun _ => Tag.old) w.heap.size .old = T1 at *
  have a2 := step_new w1 T1 (.cells d.cells 44) .old (fun _ => False)
  have b2 := blk_new w1 T1 d.cells 44 .old
  have b1' := b1.step a2 (fun h => h)
  rw [s1] at b2
  rw [s1] at a2 b1'
  generalize hw2 : w1.alloc (.cells d.cells 44) = w2 at *
  have s2 : w2.heap.size = w.heap.size + 2 := by rw [← hw2]; simp [s1]
  generalize retag T1 (w.heap.size + 1) .old = T2 at *
  have a3 := step_new w2 T2 (.cells #[.int .i64 10, .int .i64 2, .int .i64 2, .int .i64 5, .int .i64 0, .int .i64 0, .int .i64 0, .int .i64 0, .slice none 0 0, .slice none 0 0, .slice none 0 0, .int .i64 3] 50) .world (fun _ => False)
  have b3 := blk_new w2 T2 #[.int .i64 10, .int .i64 2, .int .i64 2, .int .i64 5, .int .i64 0, .int .i64 0, .int .i64 0, .int .i64 0, .slice none 0 0, .slice none 0 0, .slice none 0 0, .int .i64 3] 50 .world
  refine ⟨_, (a1.trans a2).trans a3, ⟨⟨.slice none 0 0, ?_, row_nil _ _ _ _ _⟩, fun i p h => by simp at h⟩, b1'.step a3 (fun h => h), b2.step a3 (fun h => h)⟩
  rw [s2] at b3
  rw [s2]
  exact b3

end Go.Proofs.Ytedbcmlekjagpaa

/- Helpers over any program: worlds that agree with a given one on all its blocks, and a region that draws its order whose operations only read and whose callees only make new memory. -/
import Derived.WalkKit
import Derived.WalkSpells
import Derived.WalkLawsBesides
import Derived.Deep.QuietTactic
import Derived.BigQuiet
import Derived.Deep.RegionWith
import Derived.Deep.RegionHeld3
namespace Go.Proofs.Ytockkceclkcgbaa
open Go.RowKit

theorem hide {p : Prop} (h : p) : Hid p := h

/-- The world x, with all blocks of w as they are in w. -/
def over (w x : World) : World := { x with heap := w.heap ++ x.heap.extract w.heap.size x.heap.size, tape := w.tape, os := w.os, output := w.output }

theorem over_block (w x : World) (k : Nat) (h : k < w.heap.size) : (over w x).heap[k]? = w.heap[k]? := by
  show (w.heap ++ x.heap.extract w.heap.size x.heap.size)[k]? = _
  rw [Array.getElem?_append_left h]

theorem over_below (w x : World) : Below w.heap.size w (over w x) :=
  ⟨rfl, rfl, rfl, by show w.heap.size ≤ (w.heap ++ x.heap.extract w.heap.size x.heap.size).size; simp, fun k hk => over_block w x k hk⟩

theorem over_cell (w x : World) (b o : Nat) (h : b < w.heap.size) : (over w x).cell? ⟨b, o, none⟩ = w.cell? ⟨b, o, none⟩ := (over_below w x).cell (p := ⟨b, o, none⟩) h
theorem over_frozen (w x : World) (b o : Nat) (h : b < w.heap.size) : (over w x).frozen? ⟨b, o, none⟩ = w.frozen? ⟨b, o, none⟩ := (over_below w x).frozen (p := ⟨b, o, none⟩) h

theorem over_of_below {w w' : World} (h : Below w.heap.size w w') : ∃ x, w' = over w x := by
  refine ⟨w', ?_⟩
  obtain ⟨h1, h2, h3, h4, h5⟩ := h
  have hh : w'.heap = w.heap ++ w'.heap.extract w.heap.size w'.heap.size := by
    apply Array.ext_getElem?
    intro k
    by_cases hk : k < w.heap.size
    · rw [Array.getElem?_append_left hk]; exact h5 k hk
    · rw [Array.getElem?_append_right (by omega), Array.getElem?_extract]
      by_cases hk2 : k < w'.heap.size
      · rw [if_pos (by omega)]; congr 1; omega
      · rw [if_neg (by omega), Array.getElem?_eq_none (by omega)]
  unfold over
  rw [← hh, ← h1, ← h2, ← h3]

theorem quiet_over {P : Program} {f : FuncId} {args : Array Value} {w x : World} {v : Value}
    (h : ∀ w1, Calls P f args w1 fun e w' => e = .returned v ∧ Below w1.heap.size w1 w') : Calls P f args (over w x) fun e w'' => e = .returned v ∧ ∃ y, w'' = over w y :=
  (h (over w x)).mono fun _ _ ⟨he, hb⟩ => ⟨he, over_of_below ((over_below w x).trans (hb.mono (over_below w x).size))⟩

/-- the same for a contract that asks something of the world -/
theorem quiet_over_at {P : Program} {f : FuncId} {args : Array Value} {w x : World} {v : Value}
    (h : Calls P f args (over w x) fun e w' => e = .returned v ∧ Below (over w x).heap.size (over w x) w') : Calls P f args (over w x) fun e w'' => e = .returned v ∧ ∃ y, w'' = over w y :=
  h.mono fun _ _ ⟨he, hb⟩ => ⟨he, over_of_below ((over_below w x).trans (hb.mono (over_below w x).size))⟩

theorem wp_region_over {P : Program} {id : Nat} {Q : Exit → Act → World → Prop} {a : Act} {w : World} {l : List Oper} (hm : P.follows .mixedOrders = true) (hB : Region.lexB .any l.toArray = true)
    (h : wpQuiet P l.toArray (fun w' => ∃ x, w' = over w x) (fun a' => ∀ w', (∃ x, w' = over w x) → Q .normal a' w') l a) : (Code.region id l.toArray true).wp P Q a w :=
  wp_region_quiet (C := fun w' => ∃ x, w' = over w x) hm hB (over_of_below (Below.refl _ _).drew) (by simpa using h)

end Go.Proofs.Ytockkceclkcgbaa

/- Helpers over any program: worlds that agree with a given one on all its blocks, and a region that draws its order whose operations only read and whose callees only make new memory. -/
import Derived.WalkKit
import Derived.WalkSpells
import Derived.WalkLawsBesides
import Derived.Deep.QuietTactic
import Derived.BigQuiet
import Derived.Deep.RegionWith
import Derived.Deep.RegionHeld3
import Derived.Deep.AppendLies
import Derived.Maps.AppendAt
import Derived.Maps.OwnSet
import Derived.Deep.RegionLaw
import Derived.Deep.CutRange
namespace Go.Proofs.YtockkceclkcgbaaGreatDoor
open Go.RowKit

theorem hide {p : Prop} (h : p) : Hid p := h

/-- The world x, with all blocks of w as they are in w. -/
def over (w x : World) : World := { x with heap := w.heap ++ x.heap.extract w.heap.size x.heap.size, tape := w.tape, os := w.os, output := w.output }

theorem over_block (w x : World) (k : Nat) (h : k < w.heap.size) : (over w x).heap[k]? = w.heap[k]? := by
  show (w.heap ++ x.heap.extract w.heap.size x.heap.size)[k]? = _
  rw [Array.getElem?_append_left h]

theorem over_below (w x : World) : Below w.heap.size w (over w x) :=
  ⟨rfl, rfl, rfl, by show w.heap.size ≤ (w.heap ++ x.heap.extract w.heap.size x.heap.size).size; simp, fun k hk => over_block w x k hk⟩

theorem over_cell (w x : World) (b o : Nat) (h : b < w.heap.size) : (over w x).cell? ⟨b, o, none⟩ = w.cell? ⟨b, o, none⟩ := (over_below w x).cell (p := ⟨b, o, none⟩) h
theorem over_frozen (w x : World) (b o : Nat) (h : b < w.heap.size) : (over w x).frozen? ⟨b, o, none⟩ = w.frozen? ⟨b, o, none⟩ := (over_below w x).frozen (p := ⟨b, o, none⟩) h

theorem over_of_below {w w' : World} (h : Below w.heap.size w w') : ∃ x, w' = over w x := by
  refine ⟨w', ?_⟩
  obtain ⟨h1, h2, h3, h4, h5⟩ := h
  have hh : w'.heap = w.heap ++ w'.heap.extract w.heap.size w'.heap.size := by
    apply Array.ext_getElem?
    intro k
    by_cases hk : k < w.heap.size
    · rw [Array.getElem?_append_left hk]; exact h5 k hk
    · rw [Array.getElem?_append_right (by omega), Array.getElem?_extract]
      by_cases hk2 : k < w'.heap.size
      · rw [if_pos (by omega)]; congr 1; omega
      · rw [if_neg (by omega), Array.getElem?_eq_none (by omega)]
  unfold over
  rw [← hh, ← h1, ← h2, ← h3]

theorem quiet_over {P : Program} {f : FuncId} {args : Array Value} {w x : World} {v : Value}
    (h : ∀ w1, Calls P f args w1 fun e w' => e = .returned v ∧ Below w1.heap.size w1 w') : Calls P f args (over w x) fun e w'' => e = .returned v ∧ ∃ y, w'' = over w y :=
  (h (over w x)).mono fun _ _ ⟨he, hb⟩ => ⟨he, over_of_below ((over_below w x).trans (hb.mono (over_below w x).size))⟩

/-- the same for a contract that asks something of the world -/
theorem quiet_over_at {P : Program} {f : FuncId} {args : Array Value} {w x : World} {v : Value}
    (h : Calls P f args (over w x) fun e w' => e = .returned v ∧ Below (over w x).heap.size (over w x) w') : Calls P f args (over w x) fun e w'' => e = .returned v ∧ ∃ y, w'' = over w y :=
  h.mono fun _ _ ⟨he, hb⟩ => ⟨he, over_of_below ((over_below w x).trans (hb.mono (over_below w x).size))⟩

theorem wp_region_over {P : Program} {id : Nat} {Q : Exit → Act → World → Prop} {a : Act} {w : World} {l : List Oper} (hm : P.follows .mixedOrders = true) (hB : Region.lexB .any l.toArray = true)
    (h : wpQuiet P l.toArray (fun w' => ∃ x, w' = over w x) (fun a' => ∀ w', (∃ x, w' = over w x) → Q .normal a' w') l a) : (Code.region id l.toArray true).wp P Q a w :=
  wp_region_quiet (C := fun w' => ∃ x, w' = over w x) hm hB (over_of_below (Below.refl _ _).drew) (by simpa using h)

end Go.Proofs.YtockkceclkcgbaaGreatDoor

/- Helpers over any program: what is kept of memory while some blocks are written; rows that hold one pattern; an append of the pattern to a list that holds it. -/
namespace Go.Proofs.YtockkceclkcgbaaGreatDoor
open Go.RowKit

/-- All blocks of w but those in S are in w' as they were. -/
structure Kept (S : Nat → Prop) (w w' : World) : Prop where
  os : w'.os = w.os
  tape : w'.tape = w.tape
  output : w'.output = w.output
  size : w.heap.size ≤ w'.heap.size
  block : ∀ k, k < w.heap.size → ¬ S k → w'.heap[k]? = w.heap[k]?

theorem Kept.refl (S : Nat → Prop) (w : World) : Kept S w w := ⟨rfl, rfl, rfl, Nat.le_refl _, fun _ _ _ => rfl⟩
theorem Kept.trans {S T : Nat → Prop} {a b c : World} (h : Kept S a b) (k : Kept T b c) (hT : ∀ i, i < a.heap.size → T i → S i) : Kept S a c :=
  ⟨k.os.trans h.os, k.tape.trans h.tape, k.output.trans h.output, Nat.le_trans h.size k.size, fun i hi hS => (k.block i (Nat.lt_of_lt_of_le hi h.size) (fun x => hS (hT i hi x))).trans (h.block i hi hS)⟩
theorem Kept.mono {S T : Nat → Prop} {a b : World} (h : Kept S a b) (hT : ∀ i, i < a.heap.size → S i → T i) : Kept T a b :=
  ⟨h.os, h.tape, h.output, h.size, fun i hi hS => h.block i hi (fun x => hS (hT i hi x))⟩
theorem kept_of_below {w w' : World} (S : Nat → Prop) (h : Below w.heap.size w w') : Kept S w w' := ⟨h.os, h.tape, h.output, h.size, fun k hk _ => h.block k hk⟩
theorem kept_of_grown {w w' : World} {row : Option Nat} (h : w.grownBy w' row) : Kept (fun b => some b = row) w w' := ⟨h.os, h.tape, h.output, h.size, fun k hk hS => h.block k hk hS⟩
theorem kept_setCell (w : World) (a : Addr) (u : Value) : Kept (fun b => b = a.block) w (w.setCell a u) :=
  ⟨rfl, rfl, rfl, by simp [World.setCell], fun k _ hk => Below.heap_setCell _ _ _ _ hk⟩
theorem Kept.below {S : Nat → Prop} {B : Nat} {w w' : World} (h : Kept S w w') (hS : ∀ i, S i → B ≤ i) (hB : B ≤ w.heap.size) : Below B w w' :=
  ⟨h.os, h.tape, h.output, h.size, fun k hk => h.block k (by omega) (fun x => by have := hS k x; omega)⟩
theorem Kept.cell {S : Nat → Prop} {w w' : World} (h : Kept S w w') {p : Addr} (hp : p.block < w.heap.size) (hS : ¬ S p.block) : w'.cell? p = w.cell? p := World.cell?_of_block (w := w) (h.block p.block hp hS)

/-- The first k cells of block b hold the pattern. -/
def Pat (w : World) (b : Nat) (pat : Nat → Value) (k : Nat) : Prop := ∀ j, j < k → w.cell? ⟨b, j, none⟩ = some (pat j)

theorem Pat.kept {S : Nat → Prop} {w w' : World} {b : Nat} {pat : Nat → Value} {k : Nat} (h : Pat w b pat k) (hk : Kept S w w') (hb : b < w.heap.size) (hS : ¬ S b) : Pat w' b pat k := fun j hj => by
  rw [hk.cell (p := ⟨b, j, none⟩) hb hS]; exact h j hj

/-- A list of the call's own, nil or at the head of row g: its cells hold the pattern. -/
def Ls (w : World) (e : TypeId) (size g : Nat) (pat : Nat → Value) (ao : Option Addr) (n cap : Nat) : Prop :=
  (ao = none ∧ n = 0 ∧ cap = 0) ∨ (ao = some ⟨g, 0, none⟩ ∧ n ≤ cap ∧ cap ≤ maxLen ∧ Pat w g pat (n * size) ∧ ∃ cur, w.heap[g]? = some (.cells cur e (0, 0)) ∧ cur.size = cap * size)

theorem Ls.kept {S : Nat → Prop} {w w' : World} {e : TypeId} {size g : Nat} {pat : Nat → Value} {ao : Option Addr} {n cap : Nat} (h : Ls w e size g pat ao n cap) (hk : Kept S w w') (hS : ¬ S g) : Ls w' e size g pat ao n cap := by
  rcases h with h | ⟨h1, h2, h3, h4, cur, h5, h6⟩
  · exact .inl h
  · have hb : g < w.heap.size := by
      rcases Nat.lt_or_ge g w.heap.size with h | h
      · exact h
      · rw [Array.getElem?_eq_none h] at h5; cases h5
    exact .inr ⟨h1, h2, h3, h4.kept hk hb hS, cur, by rw [hk.block g hb hS]; exact h5, h6⟩

theorem pat_row {w : World} {b : Nat} {xs : List Value} {rest : Array Value} {e : TypeId} {pat : Nat → Value} {k : Nat} (hk : xs.length = k) (hx : ∀ j u, xs[j]? = some u → u = pat j)
    (h : w.heap[b]? = some (.cells (xs.toArray ++ rest) e (0, 0))) : Pat w b pat k := fun j hj => by
  subst hk
  have h1 : xs[j]? = some xs[j] := List.getElem?_eq_getElem hj
  simp [World.cell?, h, Array.getElem?_append, hj]
  exact hx j _ h1

theorem run_append_pat {P : Program} (w : World) (t ty e : TypeId) (i : TypeInfo) (z : Value) (size bytes : Nat) (ht : P.underlying t = some (.slice e)) (hi : P.info? e = some i) (hz : i.zero = some z)
    (hsize : i.size = size) (hby : i.bytes = bytes) (g : Nat) (pat : Nat → Value) (ao : Option Addr) (n cap : Nat) (hls : Ls w e size g pat ao n cap)
    (ad : Addr) (m c : Nat) (news : List Value) (hl : news.length = m * size) (hnews : ∀ j u, news[j]? = some u → w.cell? (ad.add j) = some u) (h1 : ∀ u ∈ news, u.oneCell' = true)
    (hpat : ∀ j u, news[j]? = some u → u = pat (n * size + j)) (hm : 0 < m) (h63 : n + m ≤ maxLen) (hbytes : (n + m) * bytes ≤ 140737488355328) :
    ∃ b cap' w', (Builtin.append_ #[t, t] ty #[.slice ao n cap, .slice (some ad) m c]).run P w = .ok (.slice (some ⟨b, 0, none⟩) (n + m) cap') w' ∧
      Pat w' b pat ((n + m) * size) ∧ ((b = g ∧ ao = some ⟨g, 0, none⟩) ∨ b = w.heap.size) ∧ b < w'.heap.size ∧ n + m ≤ cap' ∧ Kept (fun k => k = g) w w' ∧ Ls w' e size g pat ao n cap ∧
      (∀ k, g < w.heap.size → Pat w g pat k → Pat w' g pat k) := by
  subst hsize
  subst hby
  have hmx : maxLen = 9223372036854775807 := rfl
  rcases hls with ⟨rfl, rfl, rfl⟩ | ⟨rfl, hnc, hcm, hp, cur, hg, hcs⟩
  · have hr := run_append_nil (P := P) w t ty e i z ht hi hz ad m c news hl hnews hm (by omega) (by simp only [Nat.zero_add] at hbytes; omega)
    refine ⟨w.heap.size, grownCap w m 0 e, _, by rw [Nat.zero_add]; exact hr, ?_, .inr rfl, by simp, by rw [Nat.zero_add]; exact grownCap_ge _ _ _ _, ?_, .inl ⟨rfl, rfl, rfl⟩, fun k hlt hk j hj => ?_⟩
    · rw [Nat.zero_add]
      exact pat_row (w := w.drew.alloc _) hl (fun j u h => by have := hpat j u h; rwa [Nat.zero_mul, Nat.zero_add] at this) (heap_alloc_new w.drew _)
    · exact ⟨rfl, rfl, rfl, by simp, fun k hk _ => Below.heap_alloc w.drew _ k hk⟩
    · rw [World.cell?_of_block (w := w) (a := ⟨g, j, none⟩) (Below.heap_alloc w.drew _ g hlt)]; exact hk j hj
  · have hlt : g < w.heap.size := (Array.getElem?_eq_some_iff.1 hg).1
    -- the cells of the list, as a list
    have hxs : ∀ j u, (cur.toList.take (n * i.size))[j]? = some u → u = pat j := by
      intro j u hu
      have hj : j < n * i.size := by
        have := (List.getElem?_eq_some_iff.1 hu).1
        simp at this; omega
      have h2 := hp j hj
      simp [World.cell?, hg] at h2
      rw [List.getElem?_take, if_pos hj] at hu
      rw [Array.getElem?_toList, h2] at hu
      exact (Option.some.inj hu).symm
    have hle : n * i.size ≤ cur.size := by rw [hcs]; exact Nat.mul_le_mul_right _ hnc
    have hxl : (cur.toList.take (n * i.size)).length = n * i.size := by simp; omega
    have hboth : ∀ j u, (cur.toList.take (n * i.size) ++ news)[j]? = some u → u = pat j := by
      intro j u hu
      by_cases hj : j < n * i.size
      · rw [List.getElem?_append_left (by rw [hxl]; exact hj)] at hu; exact hxs j u hu
      · rw [List.getElem?_append_right (by rw [hxl]; omega), hxl] at hu
        have := hpat _ _ hu
        rwa [show n * i.size + (j - n * i.size) = j by omega] at this
    have hbl : (cur.toList.take (n * i.size) ++ news).length = (n + m) * i.size := by rw [List.length_append, hxl, hl, Nat.add_mul]
    by_cases hroom : n + m ≤ cap
    · have hfit : n * i.size + news.length ≤ cur.size := by rw [hl, hcs, ← Nat.add_mul]; exact Nat.mul_le_mul_right _ hroom
      have hr := run_append_room (P := P) w t ty e i ht hi g n cap cur hg ad m c news hl hnews h1 hroom hfit
      have hh : (w.setRow g (cur.toList.take (n * i.size) ++ news ++ cur.toList.drop (n * i.size + news.length)).toArray).heap[g]? = some (.cells ((cur.toList.take (n * i.size) ++ news).toArray ++ (cur.toList.drop (n * i.size + news.length)).toArray) e (0, 0)) := by
        rw [setRow_heap w g cur _ e _ hg]; simp
      have hP : Pat (w.setRow g (cur.toList.take (n * i.size) ++ news ++ cur.toList.drop (n * i.size + news.length)).toArray) g pat ((n + m) * i.size) := pat_row hbl hboth hh
      refine ⟨g, cap, _, hr, hP, .inl ⟨rfl, rfl⟩, by simpa [World.setRow] using hlt, hroom, ⟨rfl, rfl, rfl, by simp [World.setRow], fun k _ hk => setRow_other w g k _ hk⟩,
        .inr ⟨rfl, hnc, hcm, fun j hj => hP j (Nat.lt_of_lt_of_le hj (Nat.mul_le_mul_right _ (Nat.le_add_right _ _))), _, hh, ?_⟩, fun k _ hk j hj => ?_⟩
      · simp only [Array.size_append, List.size_toArray, List.length_append, List.length_take, List.length_drop, Array.length_toList]
        omega
      · by_cases hj2 : j < (n + m) * i.size
        · exact hP j hj2
        · have h3 := hk j hj
          simp only [World.cell?, hg] at h3
          simp only [World.cell?, hh]
          have h4 : cur[j]? = some (pat j) := by simpa using h3
          have h5 : ((cur.toList.take (n * i.size) ++ news).toArray ++ (cur.toList.drop (n * i.size + news.length)).toArray)[j]? = cur[j]? := by
            rw [Array.getElem?_append_right (by rw [List.size_toArray, hbl]; omega), List.size_toArray, hbl, List.getElem?_toArray, List.getElem?_drop, Array.getElem?_toList]
            congr 1
            rw [hl, ← Nat.add_mul]; omega
          rw [h5, h4]; rfl
    · have holds : ∀ j u, (cur.toList.take (n * i.size))[j]? = some u → w.cell? ((⟨g, 0, none⟩ : Addr).add j) = some u := by
        intro j u hu
        have hj : j < n * i.size := by
          have := (List.getElem?_eq_some_iff.1 hu).1
          simp at this; omega
        rw [hxs j u hu, Addr.add_lit, Nat.zero_add]
        exact hp j hj
      have hr := run_append_grow (P := P) w t ty e i z ht hi hz ⟨g, 0, none⟩ n cap _ hxl holds ad m c news hl hnews (by omega) (by omega) (growslice_fits (by omega) hbytes)
      have hcell : ∀ j, (w.drew.alloc (.cells ((cur.toList.take (n * i.size)).toArray ++ news.toArray ++ Builtin.zeroCells z.cells (grownCap w (n + m) cap e - (n + m))) e)).cell? ⟨g, j, none⟩ = w.cell? ⟨g, j, none⟩ := fun j =>
        World.cell?_of_block (w := w) (a := ⟨g, j, none⟩) (Below.heap_alloc w.drew _ g hlt)
      refine ⟨w.heap.size, grownCap w (n + m) cap e, _, hr, ?_, .inr rfl, by simp, grownCap_ge _ _ _ _, ⟨rfl, rfl, rfl, by simp, fun k hk _ => Below.heap_alloc w.drew _ k hk⟩,
        .inr ⟨rfl, hnc, hcm, fun j hj => by rw [hcell]; exact hp j hj, cur, by rw [← hg]; exact Below.heap_alloc w.drew _ g hlt, hcs⟩, fun k _ hk j hj => by rw [hcell]; exact hk j hj⟩
      exact pat_row (w := w.drew.alloc _) hbl hboth (by rw [show (cur.toList.take (n * i.size) ++ news).toArray = (cur.toList.take (n * i.size)).toArray ++ news.toArray from by simp]; exact heap_alloc_new w.drew _)

theorem wpList_append_pat {P : Program} {w : World} {ops : Array Oper} {rest : List Oper} {o : Oper} {a : Act} {Q : Exit → Act → World → Prop} (hgd : o.guard = none) (s x : Operand) (t : TypeId)
    (ho : o.op = .call { callee := .builtin .append, args := #[s, x], argTypes := #[t, t] })
    (e : TypeId) (i : TypeInfo) (z : Value) (size bytes : Nat) (ht : P.underlying t = some (.slice e)) (hi : P.info? e = some i) (hz : i.zero = some z)
    (hsize : i.size = size) (hby : i.bytes = bytes) (g : Nat) (pat : Nat → Value) (ao : Option Addr) (n cap : Nat) (hs : a.eval s = .slice ao n cap) (hls : Ls w e size g pat ao n cap)
    (ad : Addr) (m c : Nat) (news : List Value) (hx : a.eval x = .slice (some ad) m c) (hl : news.length = m * size) (hnews : ∀ j u, news[j]? = some u → w.cell? (ad.add j) = some u) (h1 : ∀ u ∈ news, u.oneCell' = true)
    (hpat : ∀ j u, news[j]? = some u → u = pat (n * size + j)) (hm : 0 < m) (h63 : n + m ≤ maxLen) (hbytes : (n + m) * bytes ≤ 140737488355328)
    (h : ∀ b cap' w', Pat w' b pat ((n + m) * size) → ((b = g ∧ ao = some ⟨g, 0, none⟩) ∨ b = w.heap.size) → b < w'.heap.size → n + m ≤ cap' → Kept (fun k => k = g) w w' → Ls w' e size g pat ao n cap → (∀ k, g < w.heap.size → Pat w g pat k → Pat w' g pat k) →
      wpList P ops Q rest (a.put o.dst (.slice (some ⟨b, 0, none⟩) (n + m) cap')) w') : wpList P ops Q (o :: rest) a w := by
  refine wpList_plain hgd fun K hK => ?_
  obtain ⟨b, cap', w', hr, r1, r2, r3, r4, r5, r6, r7⟩ := run_append_pat (P := P) w t o.type e i z size bytes ht hi hz hsize hby g pat ao n cap hls ad m c news hl hnews h1 hpat hm h63 hbytes
  unfold Oper.wp execOp
  simp only [ho, resolve, invoke, builtin, Sem.run_bind, Sem.run_pure, Result.andThen_ok, List.map_toArray, List.map_cons, List.map_nil, hs, hx, hr]
  exact hK _ _ (h b cap' w' r1 r2 r3 r4 r5 r6 r7)

end Go.Proofs.YtockkceclkcgbaaGreatDoor

/- Helpers over any program: blocks that bear a tag; what is kept of memory while blocks of some tags are written; a row of a tag. -/
namespace Go.Proofs.YtockkceclkcgbaaGreatDoor
open Go.RowKit

/-- Whose a block is: 'old': it was there when the call began; 'free': nobody's; the law's world, its row of pairs; of the pair of number i: itself, its queue's blocks (r: which), the document's queue's blocks. -/
structure Tag where
  c : Nat
  i : Nat
  r : Nat
  k : Nat

abbrev Tag.old : Tag := ⟨0, 0, 0, 0⟩
abbrev Tag.free : Tag := ⟨1, 0, 0, 0⟩
abbrev Tag.world : Tag := ⟨2, 0, 0, 0⟩
abbrev Tag.row : Tag := ⟨3, 0, 0, 0⟩
abbrev Tag.pair (i : Nat) : Tag := ⟨4, i, 0, 0⟩
abbrev Tag.x (i r : Nat) : Tag := ⟨5, i, r, 0⟩
abbrev Tag.y (i r k : Nat) : Tag := ⟨6, i, r, k⟩

/-- Only blocks whose tag is in S were written; blocks keep their tags. -/
structure Step (S : Tag → Prop) (w : World) (T : Nat → Tag) (w' : World) (T' : Nat → Tag) : Prop where
  os : w'.os = w.os
  tape : w'.tape = w.tape
  output : w'.output = w.output
  size : w.heap.size ≤ w'.heap.size
  tag : ∀ k, k < w.heap.size → T' k = T k
  block : ∀ k, k < w.heap.size → ¬ S (T k) → w'.heap[k]? = w.heap[k]?

theorem Step.refl (S : Tag → Prop) (w : World) (T : Nat → Tag) : Step S w T w T := ⟨rfl, rfl, rfl, Nat.le_refl _, fun _ _ => rfl, fun _ _ _ => rfl⟩
theorem Step.trans {S : Tag → Prop} {a b c : World} {Ta Tb Tc : Nat → Tag} (h : Step S a Ta b Tb) (k : Step S b Tb c Tc) : Step S a Ta c Tc :=
  ⟨k.os.trans h.os, k.tape.trans h.tape, k.output.trans h.output, Nat.le_trans h.size k.size, fun i hi => (k.tag i (Nat.lt_of_lt_of_le hi h.size)).trans (h.tag i hi),
    fun i hi hS => (k.block i (Nat.lt_of_lt_of_le hi h.size) (by rw [h.tag i hi]; exact hS)).trans (h.block i hi hS)⟩
theorem Step.mono {S S' : Tag → Prop} {a b : World} {Ta Tb : Nat → Tag} (h : Step S a Ta b Tb) (hS : ∀ t, S t → S' t) : Step S' a Ta b Tb :=
  ⟨h.os, h.tape, h.output, h.size, h.tag, fun i hi hn => h.block i hi (fun x => hn (hS _ x))⟩
theorem Step.kept {S : Tag → Prop} {a b : World} {Ta Tb : Nat → Tag} (h : Step S a Ta b Tb) : Kept (fun k => S (Ta k)) a b := ⟨h.os, h.tape, h.output, h.size, h.block⟩

/-- the tags with one block's tag laid anew -/
def retag (T : Nat → Tag) (g : Nat) (t : Tag) : Nat → Tag := fun k => if k = g then t else T k
theorem retag_same (T : Nat → Tag) (g : Nat) (t : Tag) : retag T g t g = t := by simp [retag]
theorem retag_other (T : Nat → Tag) (g : Nat) (t : Tag) {k : Nat} (h : k ≠ g) : retag T g t k = T k := by simp [retag, h]

theorem step_below {w w' : World} (S : Tag → Prop) (T : Nat → Tag) (h : Below w.heap.size w w') : Step S w T w' T := ⟨h.os, h.tape, h.output, h.size, fun _ _ => rfl, fun k hk _ => h.block k hk⟩
/-- only blocks of tag S were written, and new ones may bear whatever tags -/
theorem step_kept {w w' : World} {S : Tag → Prop} {T T' : Nat → Tag} {U : Nat → Prop} (h : Kept U w w') (hU : ∀ k, k < w.heap.size → U k → S (T k)) (hT : ∀ k, k < w.heap.size → T' k = T k) : Step S w T w' T' :=
  ⟨h.os, h.tape, h.output, h.size, hT, fun k hk hS => h.block k hk (fun x => hS (hU k hk x))⟩
theorem step_grown {w w' : World} {S : Tag → Prop} {T T' : Nat → Tag} {row : Option Nat} (h : w.grownBy w' row) (hU : ∀ k, row = some k → S (T k)) (hT : ∀ k, k < w.heap.size → T' k = T k) : Step S w T w' T' :=
  ⟨h.os, h.tape, h.output, h.size, hT, fun k hk hS => h.block k hk (fun x => hS (hU k x.symm))⟩

theorem Step.cell {S : Tag → Prop} {w w' : World} {T T' : Nat → Tag} (h : Step S w T w' T') {p : Addr} (hp : p.block < w.heap.size) (hS : ¬ S (T p.block)) : w'.cell? p = w.cell? p := World.cell?_of_block (w := w) (h.block p.block hp hS)

/-- Block b bears the tag t and holds the cells. -/
def Blk (w : World) (T : Nat → Tag) (t : Tag) (b : Nat) (cs : Array Value) (e : TypeId) : Prop := T b = t ∧ w.heap[b]? = some (.cells cs e (0, 0))

theorem Blk.lt {w : World} {T : Nat → Tag} {t : Tag} {b : Nat} {cs : Array Value} {e : TypeId} (h : Blk w T t b cs e) : b < w.heap.size := by
  rcases Nat.lt_or_ge b w.heap.size with h1 | h1
  · exact h1
  · have := h.2; rw [Array.getElem?_eq_none h1] at this; cases this
theorem Blk.step {S : Tag → Prop} {w w' : World} {T T' : Nat → Tag} {t : Tag} {b : Nat} {cs : Array Value} {e : TypeId} (h : Blk w T t b cs e) (hs : Step S w T w' T') (ht : ¬ S t) : Blk w' T' t b cs e :=
  ⟨(hs.tag b h.lt).trans h.1, (hs.block b h.lt (by rw [h.1]; exact ht)).trans h.2⟩
theorem Blk.cell {w : World} {T : Nat → Tag} {t : Tag} {b : Nat} {cs : Array Value} {e : TypeId} (h : Blk w T t b cs e) {j : Nat} {v : Value} (hj : cs[j]? = some v) : w.cell? ⟨b, j, none⟩ = some v := by
  simp [World.cell?, h.2, hj]
theorem Blk.frozen {w : World} {T : Nat → Tag} {t : Tag} {b : Nat} {cs : Array Value} {e : TypeId} (h : Blk w T t b cs e) (j : Nat) : w.frozen? ⟨b, j, none⟩ = false := by
  simp [World.frozen?, h.2]
theorem Blk.ne {w : World} {T : Nat → Tag} {t t' : Tag} {b b' : Nat} {cs cs' : Array Value} {e e' : TypeId} (h : Blk w T t b cs e) (h' : Blk w T t' b' cs' e') (ht : t ≠ t') : b ≠ b' := fun hb => ht (by rw [← h.1, ← h'.1, hb])

/-- A list in a row of its own, of tag t (nil: no row). -/
def Row (w : World) (T : Nat → Tag) (t : Tag) (e : TypeId) (size : Nat) (v : Value) (n : Nat) (xs : List Value) : Prop :=
  w.ownsRow 0 e size v n xs ∧ ∀ g, v.ownBlock = some g → T g = t

theorem Row.step {S : Tag → Prop} {w w' : World} {T T' : Nat → Tag} {t : Tag} {e : TypeId} {size : Nat} {v : Value} {n : Nat} {xs : List Value} (h : Row w T t e size v n xs) (hs : Step S w T w' T') (ht : ¬ S t) : Row w' T' t e size v n xs := by
  refine ⟨⟨h.1.1, ?_⟩, fun g hg => (hs.tag g (h.1.lt g hg).2).trans (h.2 g hg)⟩
  rcases h.1.2 with hn | ⟨g, cap, cur, rfl, hb, hgg, rest⟩
  · exact .inl hn
  · refine .inr ⟨g, cap, cur, rfl, hb, ?_, rest⟩
    have h1 := h.1.lt g rfl
    have h2 := h.2 g rfl
    rw [hs.block g h1.2 (by rw [h2]; exact ht)]
    exact hgg

theorem row_nil (w : World) (T : Nat → Tag) (t : Tag) (e : TypeId) (size : Nat) : Row w T t e size (.slice none 0 0) 0 [] := ⟨World.ownsRow_nil w 0 e size, by simp [Value.ownBlock]⟩

theorem Blk.set {w : World} {T : Nat → Tag} {t : Tag} {b : Nat} {cs : Array Value} {e : TypeId} (h : Blk w T t b cs e) (j : Nat) (v : Value) : Blk (w.setCell ⟨b, j, none⟩ v) T t b (cs.setIfInBounds j v) e :=
  ⟨h.1, heap_setCell_same w b j cs e v h.2⟩
theorem step_setCell (w : World) (T : Nat → Tag) (b j : Nat) (v : Value) {S : Tag → Prop} (hS : S (T b)) : Step S w T (w.setCell ⟨b, j, none⟩ v) T :=
  step_kept (kept_setCell w ⟨b, j, none⟩ v) (fun k _ e => by rw [show k = b from e]; exact hS) (fun _ _ => rfl)
theorem step_alloc (w : World) (T : Nat → Tag) (o : Obj) (S : Tag → Prop) : Step S w T (w.alloc o) T := step_below S T ((Below.refl _ _).alloc (Nat.le_refl _) _)
/-- a new block, under a tag -/
theorem step_new (w : World) (T : Nat → Tag) (o : Obj) (t : Tag) (S : Tag → Prop) : Step S w T (w.alloc o) (retag T w.heap.size t) :=
  step_kept (kept_of_below (fun _ => False) ((Below.refl _ _).alloc (Nat.le_refl _) o)) (fun _ _ e => e.elim) (fun k hk => retag_other T _ t (by omega))
theorem blk_new (w : World) (T : Nat → Tag) (cs : Array Value) (e : TypeId) (t : Tag) : Blk (w.alloc (.cells cs e)) (retag T w.heap.size t) t w.heap.size cs e := ⟨retag_same _ _ _, heap_alloc_new w _⟩

theorem row_form {w : World} {T : Nat → Tag} {t : Tag} {e : TypeId} {size : Nat} {v : Value} {n : Nat} {xs : List Value} (h : Row w T t e size v n xs) : ∃ ao cap, v = .slice ao n cap := by
  rcases h.1.2 with ⟨rfl, rfl⟩ | ⟨g, cap, cur, rfl, _⟩
  · exact ⟨_, _, rfl⟩
  · exact ⟨_, _, rfl⟩

/-- behind an append: the row is the old one or a new block, of the same tag -/
theorem Row.appended {w w' : World} {T : Nat → Tag} {t : Tag} {e : TypeId} {size : Nat} {v v' : Value} {n n' : Nat} {xs xs' : List Value} (h : Row w T t e size v n xs) (ho : w'.ownsRow 0 e size v' n' xs') (hg : w.grownBy w' v.ownBlock)
    (hat : v'.ownBlock = v.ownBlock ∨ v'.ownBlock = some w.heap.size) : ∃ T', Step (fun s => s = t) w T w' T' ∧ Row w' T' t e size v' n' xs' := by
  refine ⟨retag T w.heap.size t, step_grown hg (fun k hk => h.2 k hk) (fun k hk => retag_other T _ t (by omega)), ho, fun g hg' => ?_⟩
  rcases hat with h1 | h1
  · rw [h1] at hg'
    have := (h.1.lt g hg').2
    rw [retag_other T _ t (by omega)]
    exact h.2 g hg'
  · rw [h1] at hg'
    cases hg'
    exact retag_same _ _ _

/-- a cell of the row -/
theorem Row.cell {w : World} {T : Nat → Tag} {t : Tag} {e : TypeId} {size g : Nat} {n cap : Nat} {xs : List Value} (h : Row w T t e size (.slice (some ⟨g, 0, none⟩) n cap) n xs) {j : Nat} {u : Value} (hj : xs[j]? = some u) : w.cell? ⟨g, j, none⟩ = some u := by
  have := h.1.cells (g := g) rfl j u hj
  rwa [Addr.add_lit, Nat.zero_add] at this
theorem Row.lt {w : World} {T : Nat → Tag} {t : Tag} {e : TypeId} {size g : Nat} {n cap : Nat} {xs : List Value} (h : Row w T t e size (.slice (some ⟨g, 0, none⟩) n cap) n xs) : g < w.heap.size := (h.1.lt g rfl).2
theorem Row.frozen {w : World} {T : Nat → Tag} {t : Tag} {e : TypeId} {size g : Nat} {n cap : Nat} {xs : List Value} (h : Row w T t e size (.slice (some ⟨g, 0, none⟩) n cap) n xs) (j : Nat) : w.frozen? ⟨g, j, none⟩ = false := by
  rcases h.1.2 with ⟨h1, _⟩ | ⟨g', cap', cur, h1, _, hg, _⟩
  · cases h1
  · cases h1
    simp [World.frozen?, hg]
/-- a cell of the row, written -/
theorem Row.set {w : World} {T : Nat → Tag} {t : Tag} {e : TypeId} {size g : Nat} {n cap : Nat} {xs : List Value} (h : Row w T t e size (.slice (some ⟨g, 0, none⟩) n cap) n xs) {j : Nat} (_hj : j < xs.length) (u : Value) :
    Row (w.setCell ⟨g, j, none⟩ u) T t e size (.slice (some ⟨g, 0, none⟩) n cap) n (xs.set j u) := by
  rcases h.1.2 with ⟨h1, _⟩ | ⟨g', cap', cur, h1, h2, hg, h3, h4, h5, h6⟩
  · cases h1
  · cases h1
    refine ⟨⟨by rw [List.length_set]; exact h.1.1, .inr ⟨g, cap, cur.setIfInBounds j u, rfl, h2, heap_setCell_same w g j cur e u hg, h3, h4, by simp [h5], ?_⟩⟩, fun k hk => h.2 k hk⟩
    rw [Array.toList_setIfInBounds, List.take_set, h6]
theorem row_some {w : World} {T : Nat → Tag} {t : Tag} {e : TypeId} {size : Nat} {v : Value} {n : Nat} {xs : List Value} (h : Row w T t e size v n xs) (hn : 0 < n) : ∃ g cap, v = .slice (some ⟨g, 0, none⟩) n cap := by
  rcases h.1.2 with ⟨rfl, rfl⟩ | ⟨g, cap, cur, rfl, _⟩
  · omega
  · exact ⟨_, _, rfl⟩

/-- append of one or more elements to a row: the new list lies in a row of the same tag -/
theorem run_append_row {P : Program} {w : World} {T : Nat → Tag} {tg : Tag} (t ty e : TypeId) (i : TypeInfo) (z : Value) (size bytes : Nat) (ht : P.underlying t = some (.slice e)) (hi : P.info? e = some i) (hz : i.zero = some z)
    (hsize : i.size = size) (hby : i.bytes = bytes) (hzs : z.cells.size = size) (hsz : 0 < size)
    (v : Value) (n : Nat) (xs : List Value) (hrow : Row w T tg e size v n xs)
    (a : Addr) (m c : Nat) (news : List Value) (hl : news.length = m * size) (hnews : ∀ j u, news[j]? = some u → w.cell? (a.add j) = some u) (h1 : ∀ u ∈ news, u.oneCell' = true) (hm : 0 < m)
    (h63 : n + m ≤ maxLen) (hbytes : (n + m) * bytes ≤ 140737488355328) :
    ∃ g cap w' T', (Builtin.append_ #[t, t] ty #[v, .slice (some a) m c]).run P w = .ok (.slice (some ⟨g, 0, none⟩) (n + m) cap) w' ∧ Row w' T' tg e size (.slice (some ⟨g, 0, none⟩) (n + m) cap) (n + m) (xs ++ news) ∧ Step (fun s => s = tg) w T w' T' := by
  obtain ⟨v', w', hr, h2, h3, h4, h5⟩ := run_append_own_at (P := P) w 0 t ty e i z size bytes ht hi hz hsize hby hzs hsz v n xs hrow.1 a m c news hl hnews h1 h63 hbytes (Nat.zero_le _)
  obtain ⟨T', hs, hR⟩ := hrow.appended h2 h3 h5
  obtain ⟨g, cap, rfl⟩ := row_some hR (by omega)
  exact ⟨g, cap, w', T', hr, hR, hs⟩

theorem wpList_append_row {P : Program} {w : World} {T : Nat → Tag} {tg : Tag} {ops : Array Oper} {rest : List Oper} {o : Oper} {a : Act} {Q : Exit → Act → World → Prop} (hgd : o.guard = none) (s x : Operand) (t : TypeId)
    (ho : o.op = .call { callee := .builtin .append, args := #[s, x], argTypes := #[t, t] })
    (e : TypeId) (i : TypeInfo) (z : Value) (size bytes : Nat) (ht : P.underlying t = some (.slice e)) (hi : P.info? e = some i) (hz : i.zero = some z)
    (hsize : i.size = size) (hby : i.bytes = bytes) (hzs : z.cells.size = size) (hsz : 0 < size)
    (v : Value) (n : Nat) (xs : List Value) (hs : a.eval s = v) (hrow : Row w T tg e size v n xs)
    (ad : Addr) (m c : Nat) (news : List Value) (hx : a.eval x = .slice (some ad) m c) (hl : news.length = m * size) (hnews : ∀ j u, news[j]? = some u → w.cell? (ad.add j) = some u) (h1 : ∀ u ∈ news, u.oneCell' = true) (hm : 0 < m)
    (h63 : n + m ≤ maxLen) (hbytes : (n + m) * bytes ≤ 140737488355328)
    (h : ∀ g cap w' T', Row w' T' tg e size (.slice (some ⟨g, 0, none⟩) (n + m) cap) (n + m) (xs ++ news) → Step (fun s => s = tg) w T w' T' → wpList P ops Q rest (a.put o.dst (.slice (some ⟨g, 0, none⟩) (n + m) cap)) w') :
    wpList P ops Q (o :: rest) a w := by
  refine wpList_plain hgd fun K hK => ?_
  obtain ⟨g, cap, w', T', hr, h2, h3⟩ := run_append_row (P := P) t o.type e i z size bytes ht hi hz hsize hby hzs hsz v n xs hrow ad m c news hl hnews h1 hm h63 hbytes
  unfold Oper.wp execOp
  simp only [ho, resolve, invoke, builtin, Sem.run_bind, Sem.run_pure, Result.andThen_ok, List.map_toArray, List.map_cons, List.map_nil, hs, hx, hr]
  exact hK _ _ (h g cap w' T' h2 h3)

/-- the same as one step of a region that draws its order, its outcome known ahead -/
theorem step_append_known {P : Program} {ops : Array Oper} {o : Oper} {a : Act} {w w' : World} {K : Act → World → Prop} {Q : Exit → Act → World → Prop} {E : Prop}
    (hg : o.guard = none) (s x : Operand) (t : TypeId) (hop : o.op = Op.call { callee := Callee.builtin Builtin.append, args := #[s, x], argTypes := #[t, t] })
    (v y r : Value) (hs : a.eval s = v) (hx : a.eval x = y) (hr : (Builtin.append_ #[t, t] o.type #[v, y]).run P w = .ok r w')
    (hK : K (a.put o.dst r) w') : if Region.wanted o (yielded ops a.tmps) = true then Oper.wp P o a w K Q else E := by
  have hw : Region.wanted o (yielded ops a.tmps) = true := by simp [Region.wanted, hg]
  rw [if_pos hw]
  unfold Oper.wp execOp
  simp only [hop, resolve, invoke, builtin, Sem.run_bind, Sem.run_pure, Result.andThen_ok, List.map_toArray, List.map_cons, List.map_nil, hs, hx, hr]
  exact hK

end Go.Proofs.YtockkceclkcgbaaGreatDoor

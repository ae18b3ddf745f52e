/- Helpers over any program: blocks that bear a tag; what is kept of memory while blocks of some tags are written; a row of a tag. -/
import Derived.Test.YtedbcmlekjagpaaB1
import Derived.Maps.AppendAt
import Derived.Maps.OwnSet
import Derived.Deep.RegionLaw
import Derived.Deep.CutRange
namespace Go.Proofs.Ytedbcmlekjagpaa
open Go.RowKit

/-- Whose a block is: 'old': it was there when the call began; 'free': nobody's; the law's world, its row of pairs; of the pair of number i: itself, its queue's blocks (r: which), the document's queue's blocks. -/
structure Tag where
  c : Nat
  i : Nat
  r : Nat
  k : Nat

abbrev Tag.old : Tag := ⟨0, 0, 0, 0⟩
abbrev Tag.free : Tag := ⟨1, 0, 0, 0⟩
abbrev Tag.world : Tag := ⟨2, 0, 0, 0⟩
abbrev Tag.row : Tag := ⟨3, 0, 0, 0⟩
abbrev Tag.pair (i : Nat) : Tag := ⟨4, i, 0, 0⟩
abbrev Tag.x (i r : Nat) : Tag := ⟨5, i, r, 0⟩
abbrev Tag.y (i r k : Nat) : Tag := ⟨6, i, r, k⟩

/-- Only blocks whose tag is in S were written; blocks keep their tags. -/
structure Step (S : Tag → Prop) (w : World) (T : Nat → Tag) (w' : World) (T' : Nat → Tag) : Prop where
  os : w'.os = w.os
  tape : w'.tape = w.tape
  output : w'.output = w.output
  size : w.heap.size ≤ w'.heap.size
  tag : ∀ k, k < w.heap.size → T' k = T k
  block : ∀ k, k < w.heap.size → ¬ S (T k) → w'.heap[k]? = w.heap[k]?

theorem Step.refl (S : Tag → Prop) (w : World) (T : Nat → Tag) : Step S w T w T := ⟨rfl, rfl, rfl, Nat.le_refl _, fun _ _ => rfl, fun _ _ _ => rfl⟩
theorem Step.trans {S : Tag → Prop} {a b c : World} {Ta Tb Tc : Nat → Tag} (h : Step S a Ta b Tb) (k : Step S b Tb c Tc) : Step S a Ta c Tc :=
  ⟨k.os.trans h.os, k.tape.trans h.tape, k.output.trans h.output, Nat.le_trans h.size k.size, fun i hi => (k.tag i (Nat.lt_of_lt_of_le hi h.size)).trans (h.tag i hi),
    fun i hi hS => (k.block i (Nat.lt_of_lt_of_le hi h.size) (by rw [h.tag i hi]; exact hS)).trans (h.block i hi hS)⟩
theorem Step.mono {S S' : Tag → Prop} {a b : World} {Ta Tb : Nat → Tag} (h : Step S a Ta b Tb) (hS : ∀ t, S t → S' t) : Step S' a Ta b Tb :=
  ⟨h.os, h.tape, h.output, h.size, h.tag, fun i hi hn => h.block i hi (fun x => hn (hS _ x))⟩
theorem Step.kept {S : Tag → Prop} {a b : World} {Ta Tb : Nat → Tag} (h : Step S a Ta b Tb) : Kept (fun k => S (Ta k)) a b := ⟨h.os, h.tape, h.output, h.size, h.block⟩

/-- the tags with one block's tag laid anew -/
def retag (T : Nat → Tag) (g : Nat) (t : Tag) : Nat → Tag := fun k => if k = g then t else T k
theorem retag_same (T : Nat → Tag) (g : Nat) (t : Tag) : retag T g t g = t := by simp [retag]
theorem retag_other (T : Nat → Tag) (g : Nat) (t : Tag) {k : Nat} (h : k ≠ g) : retag T g t k = T k := by simp [retag, h]

theorem step_below {w w' : World} (S : Tag → Prop) (T : Nat → Tag) (h : Below w.heap.size w w') : Step S w T w' T := ⟨h.os, h.tape, h.output, h.size, fun _ _ => rfl, fun k hk _ => h.block k hk⟩
/-- only blocks of tag S were written, and new ones may bear whatever tags -/
theorem step_kept {w w' : World} {S : Tag → Prop} {T T' : Nat → Tag} {U : Nat → Prop} (h : Kept U w w') (hU : ∀ k, k < w.heap.size → U k → S (T k)) (hT : ∀ k, k < w.heap.size → T' k = T k) : Step S w T w' T' :=
  ⟨h.os, h.tape, h.output, h.size, hT, fun k hk hS => h.block k hk (fun x => hS (hU k hk x))⟩
theorem step_grown {w w' : World} {S : Tag → Prop} {T T' : Nat → Tag} {row : Option Nat} (h : w.grownBy w' row) (hU : ∀ k, row = some k → S (T k)) (hT : ∀ k, k < w.heap.size → T' k = T k) : Step S w T w' T' :=
  ⟨h.os, h.tape, h.output, h.size, hT, fun k hk hS => h.block k hk (fun x => hS (hU k x.symm))⟩

theorem Step.cell {S : Tag → Prop} {w w' : World} {T T' : Nat → Tag} (h : Step S w T w' T') {p : Addr} (hp : p.block < w.heap.size) (hS : ¬ S (T p.block)) : w'.cell? p = w.cell? p := World.cell?_of_block (w := w) (h.block p.block hp hS)

/-- Block b bears the tag t and holds the cells. -/
def Blk (w : World) (T : Nat → Tag) (t : Tag) (b : Nat) (cs : Array Value) (e : TypeId) : Prop := T b = t ∧ w.heap[b]? = some (.cells cs e (0, 0))

theorem Blk.lt {w : World} {T : Nat → Tag} {t : Tag} {b : Nat} {cs : Array Value} {e : TypeId} (h : Blk w T t b cs e) : b < w.heap.size := by
  rcases Nat.lt_or_ge b w.heap.size with h1 | h1
  · exact h1
  · have := h.2; rw [Array.getElem?_eq_none h1] at this; cases this
theorem Blk.step {S : Tag → Prop} {w w' : World} {T T' : Nat → Tag} {t : Tag} {b : Nat} {cs : Array Value} {e : TypeId} (h : Blk w T t b cs e) (hs : Step S w T w' T') (ht : ¬ S t) : Blk w' T' t b cs e :=
  ⟨(hs.tag b h.lt).trans h.1, (hs.block b h.lt (by rw [h.1]; exact ht)).trans h.2⟩
theorem Blk.cell {w : World} {T : Nat → Tag} {t : Tag} {b : Nat} {cs : Array Value} {e : TypeId} (h : Blk w T t b cs e) {j : Nat} {v : Value} (hj : cs[j]? = some v) : w.cell? ⟨b, j, none⟩ = some v := by
  simp [World.cell?, h.2, hj]
theorem Blk.frozen {w : World} {T : Nat → Tag} {t : Tag} {b : Nat} {cs : Array Value} {e : TypeId} (h : Blk w T t b cs e) (j : Nat) : w.frozen? ⟨b, j, none⟩ = false := by
  simp [World.frozen?, h.2]
theorem Blk.ne {w : World} {T : Nat → Tag} {t t' : Tag} {b b' : Nat} {cs cs' : Array Value} {e e' : TypeId} (h : Blk w T t b cs e) (h' : Blk w T t' b' cs' e') (ht : t ≠ t') : b ≠ b' := fun hb => ht (by rw [← h.1, ← h'.1, hb])

/-- A list in a row of its own, of tag t (nil: no row). -/
def Row (w : World) (T : Nat → Tag) (t : Tag) (e : TypeId) (size : Nat) (v : Value) (n : Nat) (xs : List Value) : Prop :=
  w.ownsRow 0 e size v n xs ∧ ∀ g, v.ownBlock = some g → T g = t

theorem Row.step {S : Tag → Prop} {w w' : World} {T T' : Nat → Tag} {t : Tag} {e : TypeId} {size : Nat} {v : Value} {n : Nat} {xs : List Value} (h : Row w T t e size v n xs) (hs : Step S w T w' T') (ht : ¬ S t) : Row w' T' t e size v n xs := by
  refine ⟨⟨h.1.1, ?_⟩, fun g hg => (hs.tag g (h.1.lt g hg).2).trans (h.2 g hg)⟩
  rcases h.1.2 with hn | ⟨g, cap, cur, rfl, hb, hgg, rest⟩
  · exact .inl hn
  · refine .inr ⟨g, cap, cur, rfl, hb, ?_, rest⟩
    have h1 := h.1.lt g rfl
    have h2 := h.2 g rfl
    rw [hs.block g h1.2 (by rw [h2]; exact ht)]
    exact hgg

theorem row_nil (w : World) (T : Nat → Tag) (t : Tag) (e : TypeId) (size : Nat) : Row w T t e size (.slice none 0 0) 0 [] := ⟨World.ownsRow_nil w 0 e size, by simp [Value.ownBlock]⟩

theorem Blk.set {w : World} {T : Nat → Tag} {t : Tag} {b : Nat} {cs : Array Value} {e : TypeId} (h : Blk w T t b cs e) (j : Nat) (v : Value) : Blk (w.setCell ⟨b, j, none⟩ v) T t b (cs.setIfInBounds j v) e :=
  ⟨h.1, heap_setCell_same w b j cs e v h.2⟩
theorem step_setCell (w : World) (T : Nat → Tag) (b j : Nat) (v : Value) {S : Tag → Prop} (hS : S (T b)) : Step S w T (w.setCell ⟨b, j, none⟩ v) T :=
  step_kept (kept_setCell w ⟨b, j, none⟩ v) (fun k _ e => by rw [show k = b from e]; exact hS) (fun _ _ => rfl)
theorem step_alloc (w : World) (T : Nat → Tag) (o : Obj) (S : Tag → Prop) : Step S w T (w.alloc o) T := step_below S T ((Below.refl _ _).alloc (Nat.le_refl _) _)
/-- a new block, under a tag -/
theorem step_new (w : World) (T : Nat → Tag) (o : Obj) (t : Tag) (S : Tag → Prop) : Step S w T (w.alloc o) (retag T w.heap.size t) :=
  step_kept (kept_of_below (fun _ => False) ((Below.refl _ _).alloc (Nat.le_refl _) o)) (fun _ _ e => e.elim) (fun k hk => retag_other T _ t (by omega))
theorem blk_new (w : World) (T : Nat → Tag) (cs : Array Value) (e : TypeId) (t : Tag) : Blk (w.alloc (.cells cs e)) (retag T w.heap.size t) t w.heap.size cs e := ⟨retag_same _ _ _, heap_alloc_new w _⟩

theorem row_form {w : World} {T : Nat → Tag} {t : Tag} {e : TypeId} {size : Nat} {v : Value} {n : Nat} {xs : List Value} (h : Row w T t e size v n xs) : ∃ ao cap, v = .slice ao n cap := by
  rcases h.1.2 with ⟨rfl, rfl⟩ | ⟨g, cap, cur, rfl, _⟩
  · exact ⟨_, _, rfl⟩
  · exact ⟨_, _, rfl⟩

/-- behind an append: the row is the old one or a new block, of the same tag -/
theorem Row.appended {w w' : World} {T : Nat → Tag} {t : Tag} {e : TypeId} {size : Nat} {v v' : Value} {n n' : Nat} {xs xs' : List Value} (h : Row w T t e size v n xs) (ho : w'.ownsRow 0 e size v' n' xs') (hg : w.grownBy w' v.ownBlock)
    (hat : v'.ownBlock = v.ownBlock ∨ v'.ownBlock = some w.heap.size) : ∃ T', Step (fun s => s = t) w T w' T' ∧ Row w' T' t e size v' n' xs' := by
  refine ⟨retag T w.heap.size t, step_grown hg (fun k hk => h.2 k hk) (fun k hk => retag_other T _ t (by omega)), ho, fun g hg' => ?_⟩
  rcases hat with h1 | h1
  · rw [h1] at hg'
    have := (h.1.lt g hg').2
    rw [retag_other T _ t (by omega)]
    exact h.2 g hg'
  · rw [h1] at hg'
    cases hg'
    exact retag_same _ _ _

/-- a cell of the row -/
theorem Row.cell {w : World} {T : Nat → Tag} {t : Tag} {e : TypeId} {size g : Nat} {n cap : Nat} {xs : List Value} (h : Row w T t e size (.slice (some ⟨g, 0, none⟩) n cap) n xs) {j : Nat} {u : Value} (hj : xs[j]? = some u) : w.cell? ⟨g, j, none⟩ = some u := by
  have := h.1.cells (g := g) rfl j u hj
  rwa [Addr.add_lit, Nat.zero_add] at this
theorem Row.lt {w : World} {T : Nat → Tag} {t : Tag} {e : TypeId} {size g : Nat} {n cap : Nat} {xs : List Value} (h : Row w T t e size (.slice (some ⟨g, 0, none⟩) n cap) n xs) : g < w.heap.size := (h.1.lt g rfl).2
theorem Row.frozen {w : World} {T : Nat → Tag} {t : Tag} {e : TypeId} {size g : Nat} {n cap : Nat} {xs : List Value} (h : Row w T t e size (.slice (some ⟨g, 0, none⟩) n cap) n xs) (j : Nat) : w.frozen? ⟨g, j, none⟩ = false := by
  rcases h.1.2 with ⟨h1, _⟩ | ⟨g', cap', cur, h1, _, hg, _⟩
  · cases h1
  · cases h1
    simp [World.frozen?, hg]
/-- a cell of the row, written -/
theorem Row.set {w : World} {T : Nat → Tag} {t : Tag} {e : TypeId} {size g : Nat} {n cap : Nat} {xs : List Value} (h : Row w T t e size (.slice (some ⟨g, 0, none⟩) n cap) n xs) {j : Nat} (_hj : j < xs.length) (u : Value) :
    Row (w.setCell ⟨g, j, none⟩ u) T t e size (.slice (some ⟨g, 0, none⟩) n cap) n (xs.set j u) := by
  rcases h.1.2 with ⟨h1, _⟩ | ⟨g', cap', cur, h1, h2, hg, h3, h4, h5, h6⟩
  · cases h1
  · cases h1
    refine ⟨⟨by rw [List.length_set]; exact h.1.1, .inr ⟨g, cap, cur.setIfInBounds j u, rfl, h2, heap_setCell_same w g j cur e u hg, h3, h4, by simp [h5], ?_⟩⟩, fun k hk => h.2 k hk⟩
    rw [Array.toList_setIfInBounds, List.take_set, h6]
theorem row_some {w : World} {T : Nat → Tag} {t : Tag} {e : TypeId} {size : Nat} {v : Value} {n : Nat} {xs : List Value} (h : Row w T t e size v n xs) (hn : 0 < n) : ∃ g cap, v = .slice (some ⟨g, 0, none⟩) n cap := by
  rcases h.1.2 with ⟨rfl, rfl⟩ | ⟨g, cap, cur, rfl, _⟩
  · omega
  · exact ⟨_, _, rfl⟩

/-- append of one or more elements to a row: the new list lies in a row of the same tag -/
theorem run_append_row {P : Program} {w : World} {T : Nat → Tag} {tg : Tag} (t ty e : TypeId) (i : TypeInfo) (z : Value) (size bytes : Nat) (ht : P.underlying t = some (.slice e)) (hi : P.info? e = some i) (hz : i.zero = some z)
    (hsize : i.size = size) (hby : i.bytes = bytes) (hzs : z.cells.size = size) (hsz : 0 < size)
    (v : Value) (n : Nat) (xs : List Value) (hrow : Row w T tg e size v n xs)
    (a : Addr) (m c : Nat) (news : List Value) (hl : news.length = m * size) (hnews : ∀ j u, news[j]? = some u → w.cell? (a.add j) = some u) (h1 : ∀ u ∈ news, u.oneCell' = true) (hm : 0 < m)
    (h63 : n + m ≤ maxLen) (hbytes : (n + m) * bytes ≤ 140737488355328) :
    ∃ g cap w' T', (Builtin.append_ #[t, t] ty #[v, .slice (some a) m c]).run P w = .ok (.slice (some ⟨g, 0, none⟩) (n + m) cap) w' ∧ Row w' T' tg e size (.slice (some ⟨g, 0, none⟩) (n + m) cap) (n + m) (xs ++ news) ∧ Step (fun s => s = tg) w T w' T' := by
  obtain ⟨v', w', hr, h2, h3, h4, h5⟩ := run_append_own_at (P := P) w 0 t ty e i z size bytes ht hi hz hsize hby hzs hsz v n xs hrow.1 a m c news hl hnews h1 h63 hbytes (Nat.zero_le _)
  obtain ⟨T', hs, hR⟩ := hrow.appended h2 h3 h5
  obtain ⟨g, cap, rfl⟩ := row_some hR (by omega)
  exact ⟨g, cap, w', T', hr, hR, hs⟩

theorem wpList_append_row {P : Program} {w : World} {T : Nat → Tag} {tg : Tag} {ops : Array Oper} {rest : List Oper} {o : Oper} {a : Act} {Q : Exit → Act → World → Prop} (hgd : o.guard = none) (s x : Operand) (t : TypeId)
    (ho : o.op = .call { callee := .builtin .append, args := #[s, x], argTypes := #[t, t] })
    (e : TypeId) (i : TypeInfo) (z : Value) (size bytes : Nat) (ht : P.underlying t = some (.slice e)) (hi : P.info? e = some i) (hz : i.zero = some z)
    (hsize : i.size = size) (hby : i.bytes = bytes) (hzs : z.cells.size = size) (hsz : 0 < size)
    (v : Value) (n : Nat) (xs : List Value) (hs : a.eval s = v) (hrow : Row w T tg e size v n xs)
    (ad : Addr) (m c : Nat) (news : List Value) (hx : a.eval x = .slice (some ad) m c) (hl : news.length = m * size) (hnews : ∀ j u, news[j]? = some u → w.cell? (ad.add j) = some u) (h1 : ∀ u ∈ news, u.oneCell' = true) (hm : 0 < m)
    (h63 : n + m ≤ maxLen) (hbytes : (n + m) * bytes ≤ 140737488355328)
    (h : ∀ g cap w' T', Row w' T' tg e size (.slice (some ⟨g, 0, none⟩) (n + m) cap) (n + m) (xs ++ news) → Step (fun s => s = tg) w T w' T' → wpList P ops Q rest (a.put o.dst (.slice (some ⟨g, 0, none⟩) (n + m) cap)) w') :
    wpList P ops Q (o :: rest) a w := by
  refine wpList_plain hgd fun K hK => ?_
  obtain ⟨g, cap, w', T', hr, h2, h3⟩ := run_append_row (P := P) t o.type e i z size bytes ht hi hz hsize hby hzs hsz v n xs hrow ad m c news hl hnews h1 hm h63 hbytes
  unfold Oper.wp execOp
  simp only [ho, resolve, invoke, builtin, Sem.run_bind, Sem.run_pure, Result.andThen_ok, List.map_toArray, List.map_cons, List.map_nil, hs, hx, hr]
  exact hK _ _ (h g cap w' T' h2 h3)

/-- the same as one step of a region that draws its order, its outcome known ahead -/
theorem step_append_known {P : Program} {ops : Array Oper} {o : Oper} {a : Act} {w w' : World} {K : Act → World → Prop} {Q : Exit → Act → World → Prop} {E : Prop}
    (hg : o.guard = none) (s x : Operand) (t : TypeId) (hop : o.op = Op.call { callee := Callee.builtin Builtin.append, args := #[s, x], argTypes := #[t, t] })
    (v y r : Value) (hs : a.eval s = v) (hx : a.eval x = y) (hr : (Builtin.append_ #[t, t] o.type #[v, y]).run P w = .ok r w')
    (hK : K (a.put o.dst r) w') : if Region.wanted o (yielded ops a.tmps) = true then Oper.wp P o a w K Q else E := by
  have hw : Region.wanted o (yielded ops a.tmps) = true := by simp [Region.wanted, hg]
  rw [if_pos hw]
  unfold Oper.wp execOp
  simp only [hop, resolve, invoke, builtin, Sem.run_bind, Sem.run_pure, Result.andThen_ok, List.map_toArray, List.map_cons, List.map_nil, hs, hx, hr]
  exact hK

end Go.Proofs.Ytedbcmlekjagpaa

/- Helpers over any program: what is kept of memory while some blocks are written; rows that hold one pattern; an append of the pattern to a list that holds it. -/
import Derived.Test.YtockkceclkcgbaaW0
import Derived.Deep.AppendLies
namespace Go.Proofs.Ytockkceclkcgbaa
open Go.RowKit

/-- All blocks of w but those in S are in w' as they were. -/
structure Kept (S : Nat → Prop) (w w' : World) : Prop where
  os : w'.os = w.os
  tape : w'.tape = w.tape
  output : w'.output = w.output
  size : w.heap.size ≤ w'.heap.size
  block : ∀ k, k < w.heap.size → ¬ S k → w'.heap[k]? = w.heap[k]?

theorem Kept.refl (S : Nat → Prop) (w : World) : Kept S w w := ⟨rfl, rfl, rfl, Nat.le_refl _, fun _ _ _ => rfl⟩
theorem Kept.trans {S T : Nat → Prop} {a b c : World} (h : Kept S a b) (k : Kept T b c) (hT : ∀ i, i < a.heap.size → T i → S i) : Kept S a c :=
  ⟨k.os.trans h.os, k.tape.trans h.tape, k.output.trans h.output, Nat.le_trans h.size k.size, fun i hi hS => (k.block i (Nat.lt_of_lt_of_le hi h.size) (fun x => hS (hT i hi x))).trans (h.block i hi hS)⟩
theorem Kept.mono {S T : Nat → Prop} {a b : World} (h : Kept S a b) (hT : ∀ i, i < a.heap.size → S i → T i) : Kept T a b :=
  ⟨h.os, h.tape, h.output, h.size, fun i hi hS => h.block i hi (fun x => hS (hT i hi x))⟩
theorem kept_of_below {w w' : World} (S : Nat → Prop) (h : Below w.heap.size w w') : Kept S w w' := ⟨h.os, h.tape, h.output, h.size, fun k hk _ => h.block k hk⟩
theorem kept_of_grown {w w' : World} {row : Option Nat} (h : w.grownBy w' row) : Kept (fun b => some b = row) w w' := ⟨h.os, h.tape, h.output, h.size, fun k hk hS => h.block k hk hS⟩
theorem kept_setCell (w : World) (a : Addr) (u : Value) : Kept (fun b => b = a.block) w (w.setCell a u) :=
  ⟨rfl, rfl, rfl, by simp [World.setCell], fun k _ hk => Below.heap_setCell _ _ _ _ hk⟩
theorem Kept.below {S : Nat → Prop} {B : Nat} {w w' : World} (h : Kept S w w') (hS : ∀ i, S i → B ≤ i) (hB : B ≤ w.heap.size) : Below B w w' :=
  ⟨h.os, h.tape, h.output, h.size, fun k hk => h.block k (by omega) (fun x => by have := hS k x; omega)⟩
theorem Kept.cell {S : Nat → Prop} {w w' : World} (h : Kept S w w') {p : Addr} (hp : p.block < w.heap.size) (hS : ¬ S p.block) : w'.cell? p = w.cell? p := World.cell?_of_block (w := w) (h.block p.block hp hS)

/-- The first k cells of block b hold the pattern. -/
def Pat (w : World) (b : Nat) (pat : Nat → Value) (k : Nat) : Prop := ∀ j, j < k → w.cell? ⟨b, j, none⟩ = some (pat j)

theorem Pat.kept {S : Nat → Prop} {w w' : World} {b : Nat} {pat : Nat → Value} {k : Nat} (h : Pat w b pat k) (hk : Kept S w w') (hb : b < w.heap.size) (hS : ¬ S b) : Pat w' b pat k := fun j hj => by
  rw [hk.cell (p := ⟨b, j, none⟩) hb hS]; exact h j hj

/-- A list of the call's own, nil or at the head of row g: its cells hold the pattern. -/
def Ls (w : World) (e : TypeId) (size g : Nat) (pat : Nat → Value) (ao : Option Addr) (n cap : Nat) : Prop :=
  (ao = none ∧ n = 0 ∧ cap = 0) ∨ (ao = some ⟨g, 0, none⟩ ∧ n ≤ cap ∧ cap ≤ maxLen ∧ Pat w g pat (n * size) ∧ ∃ cur, w.heap[g]? = some (.cells cur e (0, 0)) ∧ cur.size = cap * size)

theorem Ls.kept {S : Nat → Prop} {w w' : World} {e : TypeId} {size g : Nat} {pat : Nat → Value} {ao : Option Addr} {n cap : Nat} (h : Ls w e size g pat ao n cap) (hk : Kept S w w') (hS : ¬ S g) : Ls w' e size g pat ao n cap := by
  rcases h with h | ⟨h1, h2, h3, h4, cur, h5, h6⟩
  · exact .inl h
  · have hb : g < w.heap.size := by
      rcases Nat.lt_or_ge g w.heap.size with h | h
      · exact h
      · rw [Array.getElem?_eq_none h] at h5; cases h5
    exact .inr ⟨h1, h2, h3, h4.kept hk hb hS, cur, by rw [hk.block g hb hS]; exact h5, h6⟩

theorem pat_row {w : World} {b : Nat} {xs : List Value} {rest : Array Value} {e : TypeId} {pat : Nat → Value} {k : Nat} (hk : xs.length = k) (hx : ∀ j u, xs[j]? = some u → u = pat j)
    (h : w.heap[b]? = some (.cells (xs.toArray ++ rest) e (0, 0))) : Pat w b pat k := fun j hj => by
  subst hk
  have h1 : xs[j]? = some xs[j] := List.getElem?_eq_getElem hj
  simp [World.cell?, h, Array.getElem?_append, hj]
  exact hx j _ h1

theorem run_append_pat {P : Program} (w : World) (t ty e : TypeId) (i : TypeInfo) (z : Value) (size bytes : Nat) (ht : P.underlying t = some (.slice e)) (hi : P.info? e = some i) (hz : i.zero = some z)
    (hsize : i.size = size) (hby : i.bytes = bytes) (g : Nat) (pat : Nat → Value) (ao : Option Addr) (n cap : Nat) (hls : Ls w e size g pat ao n cap)
    (ad : Addr) (m c : Nat) (news : List Value) (hl : news.length = m * size) (hnews : ∀ j u, news[j]? = some u → w.cell? (ad.add j) = some u) (h1 : ∀ u ∈ news, u.oneCell' = true)
    (hpat : ∀ j u, news[j]? = some u → u = pat (n * size + j)) (hm : 0 < m) (h63 : n + m ≤ maxLen) (hbytes : (n + m) * bytes ≤ 140737488355328) :
    ∃ b cap' w', (Builtin.append_ #[t, t] ty #[.slice ao n cap, .slice (some ad) m c]).run P w = .ok (.slice (some ⟨b, 0, none⟩) (n + m) cap') w' ∧
      Pat w' b pat ((n + m) * size) ∧ ((b = g ∧ ao = some ⟨g, 0, none⟩) ∨ b = w.heap.size) ∧ b < w'.heap.size ∧ n + m ≤ cap' ∧ Kept (fun k => k = g) w w' ∧ Ls w' e size g pat ao n cap ∧
      (∀ k, g < w.heap.size → Pat w g pat k → Pat w' g pat k) := by
  subst hsize
  subst hby
  have hmx : maxLen = 9223372036854775807 := rfl
  rcases hls with ⟨rfl, rfl, rfl⟩ | ⟨rfl, hnc, hcm, hp, cur, hg, hcs⟩
  · have hr := run_append_nil (P := P) w t ty e i z ht hi hz ad m c news hl hnews hm (by omega) (by simp only [Nat.zero_add] at hbytes; omega)
    refine ⟨w.heap.size, grownCap w m 0 e, _, by rw [Nat.zero_add]; exact hr, ?_, .inr rfl, by simp, by rw [Nat.zero_add]; exact grownCap_ge _ _ _ _, ?_, .inl ⟨rfl, rfl, rfl⟩, fun k hlt hk j hj => ?_⟩
    · rw [Nat.zero_add]
      exact pat_row (w := w.drew.alloc _) hl (fun j u h => by have := hpat j u h; rwa [Nat.zero_mul, Nat.zero_add] at this) (heap_alloc_new w.drew _)
    · exact ⟨rfl, rfl, rfl, by simp, fun k hk _ => Below.heap_alloc w.drew _ k hk⟩
    · rw [World.cell?_of_block (w := w) (a := ⟨g, j, none⟩) (Below.heap_alloc w.drew _ g hlt)]; exact hk j hj
  · have hlt : g < w.heap.size := (Array.getElem?_eq_some_iff.1 hg).1
    -- the cells of the list, as a list
    have hxs : ∀ j u, (cur.toList.take (n * i.size))[j]? = some u → u = pat j := by
      intro j u hu
      have hj : j < n * i.size := by
        have := (List.getElem?_eq_some_iff.1 hu).1
        simp at this; omega
      have h2 := hp j hj
      simp [World.cell?, hg] at h2
      rw [List.getElem?_take, if_pos hj] at hu
      rw [Array.getElem?_toList, h2] at hu
      exact (Option.some.inj hu).symm
    have hle : n * i.size ≤ cur.size := by rw [hcs]; exact Nat.mul_le_mul_right _ hnc
    have hxl : (cur.toList.take (n * i.size)).length = n * i.size := by simp; omega
    have hboth : ∀ j u, (cur.toList.take (n * i.size) ++ news)[j]? = some u → u = pat j := by
      intro j u hu
      by_cases hj : j < n * i.size
      · rw [List.getElem?_append_left (by rw [hxl]; exact hj)] at hu; exact hxs j u hu
      · rw [List.getElem?_append_right (by rw [hxl]; omega), hxl] at hu
        have := hpat _ _ hu
        rwa [show n * i.size + (j - n * i.size) = j by omega] at this
    have hbl : (cur.toList.take (n * i.size) ++ news).length = (n + m) * i.size := by rw [List.length_append, hxl, hl, Nat.add_mul]
    by_cases hroom : n + m ≤ cap
    · have hfit : n * i.size + news.length ≤ cur.size := by rw [hl, hcs, ← Nat.add_mul]; exact Nat.mul_le_mul_right _ hroom
      have hr := run_append_room (P := P) w t ty e i ht hi g n cap cur hg ad m c news hl hnews h1 hroom hfit
      have hh : (w.setRow g (cur.toList.take (n * i.size) ++ news ++ cur.toList.drop (n * i.size + news.length)).toArray).heap[g]? = some (.cells ((cur.toList.take (n * i.size) ++ news).toArray ++ (cur.toList.drop (n * i.size + news.length)).toArray) e (0, 0)) := by
        rw [setRow_heap w g cur _ e _ hg]; simp
      have hP : Pat (w.setRow g (cur.toList.take (n * i.size) ++ news ++ cur.toList.drop (n * i.size + news.length)).toArray) g pat ((n + m) * i.size) := pat_row hbl hboth hh
      refine ⟨g, cap, _, hr, hP, .inl ⟨rfl, rfl⟩, by simpa [World.setRow] using hlt, hroom, ⟨rfl, rfl, rfl, by simp [World.setRow], fun k _ hk => setRow_other w g k _ hk⟩,
        .inr ⟨rfl, hnc, hcm, fun j hj => hP j (Nat.lt_of_lt_of_le hj (Nat.mul_le_mul_right _ (Nat.le_add_right _ _))), _, hh, ?_⟩, fun k _ hk j hj => ?_⟩
      · simp only [Array.size_append, List.size_toArray, List.length_append, List.length_take, List.length_drop, Array.length_toList]
        omega
      · by_cases hj2 : j < (n + m) * i.size
        · exact hP j hj2
        · have h3 := hk j hj
          simp only [World.cell?, hg] at h3
          simp only [World.cell?, hh]
          have h4 : cur[j]? = some (pat j) := by simpa using h3
          have h5 : ((cur.toList.take (n * i.size) ++ news).toArray ++ (cur.toList.drop (n * i.size + news.length)).toArray)[j]? = cur[j]? := by
            rw [Array.getElem?_append_right (by rw [List.size_toArray, hbl]; omega), List.size_toArray, hbl, List.getElem?_toArray, List.getElem?_drop, Array.getElem?_toList]
            congr 1
            rw [hl, ← Nat.add_mul]; omega
          rw [h5, h4]; rfl
    · have holds : ∀ j u, (cur.toList.take (n * i.size))[j]? = some u → w.cell? ((⟨g, 0, none⟩ : Addr).add j) = some u := by
        intro j u hu
        have hj : j < n * i.size := by
          have := (List.getElem?_eq_some_iff.1 hu).1
          simp at this; omega
        rw [hxs j u hu, Addr.add_lit, Nat.zero_add]
        exact hp j hj
      have hr := run_append_grow (P := P) w t ty e i z ht hi hz ⟨g, 0, none⟩ n cap _ hxl holds ad m c news hl hnews (by omega) (by omega) (growslice_fits (by omega) hbytes)
      have hcell : ∀ j, (w.drew.alloc (.cells ((cur.toList.take (n * i.size)).toArray ++ news.toArray ++ Builtin.zeroCells z.cells (grownCap w (n + m) cap e - (n + m))) e)).cell? ⟨g, j, none⟩ = w.cell? ⟨g, j, none⟩ := fun j =>
        World.cell?_of_block (w := w) (a := ⟨g, j, none⟩) (Below.heap_alloc w.drew _ g hlt)
      refine ⟨w.heap.size, grownCap w (n + m) cap e, _, hr, ?_, .inr rfl, by simp, grownCap_ge _ _ _ _, ⟨rfl, rfl, rfl, by simp, fun k hk _ => Below.heap_alloc w.drew _ k hk⟩,
        .inr ⟨rfl, hnc, hcm, fun j hj => by rw [hcell]; exact hp j hj, cur, by rw [← hg]; exact Below.heap_alloc w.drew _ g hlt, hcs⟩, fun k _ hk j hj => by rw [hcell]; exact hk j hj⟩
      exact pat_row (w := w.drew.alloc _) hbl hboth (by rw [show (cur.toList.take (n * i.size) ++ news).toArray = (cur.toList.take (n * i.size)).toArray ++ news.toArray from by simp]; exact heap_alloc_new w.drew _)

theorem wpList_append_pat {P : Program} {w : World} {ops : Array Oper} {rest : List Oper} {o : Oper} {a : Act} {Q : Exit → Act → World → Prop} (hgd : o.guard = none) (s x : Operand) (t : TypeId)
    (ho : o.op = .call { callee := .builtin .append, args := #[s, x], argTypes := #[t, t] })
    (e : TypeId) (i : TypeInfo) (z : Value) (size bytes : Nat) (ht : P.underlying t = some (.slice e)) (hi : P.info? e = some i) (hz : i.zero = some z)
    (hsize : i.size = size) (hby : i.bytes = bytes) (g : Nat) (pat : Nat → Value) (ao : Option Addr) (n cap : Nat) (hs : a.eval s = .slice ao n cap) (hls : Ls w e size g pat ao n cap)
    (ad : Addr) (m c : Nat) (news : List Value) (hx : a.eval x = .slice (some ad) m c) (hl : news.length = m * size) (hnews : ∀ j u, news[j]? = some u → w.cell? (ad.add j) = some u) (h1 : ∀ u ∈ news, u.oneCell' = true)
    (hpat : ∀ j u, news[j]? = some u → u = pat (n * size + j)) (hm : 0 < m) (h63 : n + m ≤ maxLen) (hbytes : (n + m) * bytes ≤ 140737488355328)
    (h : ∀ b cap' w', Pat w' b pat ((n + m) * size) → ((b = g ∧ ao = some ⟨g, 0, none⟩) ∨ b = w.heap.size) → b < w'.heap.size → n + m ≤ cap' → Kept (fun k => k = g) w w' → Ls w' e size g pat ao n cap → (∀ k, g < w.heap.size → Pat w g pat k → Pat w' g pat k) →
      wpList P ops Q rest (a.put o.dst (.slice (some ⟨b, 0, none⟩) (n + m) cap')) w') : wpList P ops Q (o :: rest) a w := by
  refine wpList_plain hgd fun K hK => ?_
  obtain ⟨b, cap', w', hr, r1, r2, r3, r4, r5, r6, r7⟩ := run_append_pat (P := P) w t o.type e i z size bytes ht hi hz hsize hby g pat ao n cap hls ad m c news hl hnews h1 hpat hm h63 hbytes
  unfold Oper.wp execOp
  simp only [ho, resolve, invoke, builtin, Sem.run_bind, Sem.run_pure, Result.andThen_ok, List.map_toArray, List.map_cons, List.map_nil, hs, hx, hr]
  exact hK _ _ (h b cap' w' r1 r2 r3 r4 r5 r6 r7)

end Go.Proofs.Ytockkceclkcgbaa

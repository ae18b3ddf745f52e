/- Contracts of the law's markDelivery and of sameDeliveries of two lists that read alike. -/
import Derived.Test.YtgcbooflhdjnhaaT12
namespace Go.Proofs.Ytgcbooflhdjnhaa
open Go.RowKit

/-- the caller's words in a delivery -/
def callers : ByteArray := ⟨#[116, 104, 101, 32, 99, 97, 108, 108, 101, 114, 39, 115]⟩

set_option maxHeartbeats 400000 in
theorem markD_any (n : Int) (w : World) (h0 : 0 ≤ n) (h1 : n ≤ 1000000000000000) :
    Calls Try.prog 33 #[.int .i64 n] w fun e w' => e = .returned (.agg #[.int .i64 (-1000 - n), .int .i64 0, .string callers]) ∧ Below w.heap.size w w' ∧ w.heap.size < w'.heap.size := by
  go_enter Try.func33, Try.ntmps33
  go_wp2
  refine bodyPost_ret (v := .agg #[.int .i64 (-1000 - n), .int .i64 0, .string callers]) ?_ rfl ⟨rfl, (Below.refl _ _).alloc (Nat.le_refl _) _, by simp⟩
  simp [results, Try.results33, go_sem, callers]

theorem dlVals_at : ∀ (l : List Dl) (k : Nat) (x : Dl), l[k]? = some x → (dlVals l)[k * 3]? = some (.int .i64 x.off) ∧ (dlVals l)[k * 3 + 1]? = some (.int .i64 x.tr) ∧ (dlVals l)[k * 3 + 2]? = some (.string x.body)
  | [], _, _, h => by simp at h
  | y :: r, 0, x, h => by simp at h; subst h; simp [dlVals]
  | y :: r, k + 1, x, h => by
    have h2 := dlVals_at r k x (by simpa using h)
    have e : ∀ j, (k + 1) * 3 + j = (k * 3 + j) + 3 := fun j => by omega
    refine ⟨?_, ?_, ?_⟩
    · rw [show (k + 1) * 3 = k * 3 + 3 by omega]; simpa [dlVals] using h2.1
    · rw [e]; simpa [dlVals] using h2.2.1
    · rw [e]; simpa [dlVals] using h2.2.2

attribute [local go_sem] over_cell

set_option maxRecDepth 100000 in
set_option maxHeartbeats 1000000 in
theorem sameD_any (l : List Dl) (v v' : Value) (T T' : Nat → Tag) (t t' : Tag) (w : World) (h1 : Row w T t 89 3 v l.length (dlVals l)) (h2 : Row w T' t' 89 3 v' l.length (dlVals l)) (hlen : l.length ≤ 4000000) :
    Calls Try.prog 50 #[v, v'] w fun e w' => e = .returned (.bool true) ∧ Below w.heap.size w w' := by
  obtain ⟨ao, cap, rfl⟩ := row_form h1
  obtain ⟨ao', cap', rfl⟩ := row_form h2
  go_enter Try.func50, Try.ntmps50
  go_wp2
  go_loopw [5] (fun i wr => ∃ k : Nat, k ≤ l.length ∧ i = .int .i64 k ∧ Below w.heap.size w wr) (fun i _ => l.length - (intOf i).toNat)
  case atStart => exact ⟨0, Nat.zero_le _, rfl, Below.refl _ _⟩
  case round =>
    obtain ⟨k, hk, rfl, hb⟩ := hrel
    by_cases hlt : k < l.length
    · obtain ⟨x, hx⟩ : ∃ x, l[k]? = some x := ⟨_, List.getElem?_eq_getElem hlt⟩
      obtain ⟨a, ca, e⟩ := row_some h1 (by omega)
      cases e
      obtain ⟨a', ca', e⟩ := row_some h2 (by omega)
      cases e
      have l1 := h1.lt
      have l2 := h2.lt
      obtain ⟨d0, d1, d2⟩ := dlVals_at l k x hx
      have c0 := (hb.cell (p := ⟨a, k * 3, none⟩) l1).trans (h1.cell d0)
      have c1 := (hb.cell (p := ⟨a, k * 3 + 1, none⟩) l1).trans (h1.cell d1)
      have c2 := (hb.cell (p := ⟨a, k * 3 + 2, none⟩) l1).trans (h1.cell d2)
      have b0 := (hb.cell (p := ⟨a', k * 3, none⟩) l2).trans (h2.cell d0)
      have b1 := (hb.cell (p := ⟨a', k * 3 + 1, none⟩) l2).trans (h2.cell d1)
      have b2 := (hb.cell (p := ⟨a', k * 3 + 2, none⟩) l2).trans (h2.cell d2)
      have m1 := Nat.lt_of_lt_of_le l1 hb.size
      have m2 := Nat.lt_of_lt_of_le l2 hb.size
      clear d0 d1 d2
      go_wp2_with fail
      refine wp_region_over (by kernel_rfl) (by kernel_rfl) ?_
      repeat (go_big_quiet_step (fail))
      refine wpQuiet_nil ?_
      rintro _ ⟨x5, rfl⟩
      have hov := hb.trans ((over_below wr x5).mono hb.size)
      generalize over wr x5 = w5 at *
      go_wp2
      exact ⟨⟨k + 1, by omega, by simp, hov⟩, by simp [intOf]; omega⟩
    · go_wp2
      go_ret
      exact ⟨rfl, hb⟩

end Go.Proofs.Ytgcbooflhdjnhaa

/- The caller's book of lists under tags: what it holds, that it stays while other memory is written; lists being written full; sameRanges of two lists that read alike. -/
namespace Go.Proofs.Ytgcbooflhdjnhaa
open Go.RowKit

/-- A list in the book, of tag t: its cells hold the pattern. -/
def Mk (w : World) (T : Nat → Tag) (t : Tag) (size : Nat) (pat : Nat → Value) (v : Value) : Prop :=
  ∃ ao n cap, v = .slice ao n cap ∧ n ≤ 1099511627776 ∧ (n = 0 ∨ ∃ b, ao = some ⟨b, 0, none⟩ ∧ T b = t ∧ b < w.heap.size ∧ Pat w b pat (n * size))

theorem Mk.step {S : Tag → Prop} {w w' : World} {T T' : Nat → Tag} {t : Tag} {size : Nat} {pat : Nat → Value} {v : Value} (h : Mk w T t size pat v) (hs : Step S w T w' T') (ht : ¬ S t) : Mk w' T' t size pat v := by
  obtain ⟨ao, n, cap, e, hn, h | ⟨b, hb, hT, hlt, hp⟩⟩ := h
  · exact ⟨ao, n, cap, e, hn, .inl h⟩
  · refine ⟨ao, n, cap, e, hn, .inr ⟨b, hb, (hs.tag b hlt).trans hT, Nat.lt_of_lt_of_le hlt hs.size, fun j hj => ?_⟩⟩
    rw [hs.cell (p := ⟨b, j, none⟩) hlt (by rw [hT]; exact ht)]
    exact hp j hj

/-- One of the book's two rows: 4 times q lists, those of number i / 4 under a tag of their own. -/
def Bk (w : World) (T : Nat → Tag) (c : Nat) (e : TypeId) (size : Nat) (pat : Nat → Nat → Value) (v : Value) (q : Nat) : Prop :=
  ∃ vs, Row w T ⟨c, 0, 0, 0⟩ e 1 v (4 * q) vs ∧ ∀ i u, vs[i]? = some u → Mk w T ⟨c + 1, i / 4, 0, 0⟩ size (pat (i / 4)) u

theorem Bk.step {S : Tag → Prop} {w w' : World} {T T' : Nat → Tag} {c : Nat} {e : TypeId} {size : Nat} {pat : Nat → Nat → Value} {v : Value} {q : Nat} (h : Bk w T c e size pat v q) (hs : Step S w T w' T') (h0 : ¬ S ⟨c, 0, 0, 0⟩) (h1 : ∀ k, k < q → ¬ S ⟨c + 1, k, 0, 0⟩) : Bk w' T' c e size pat v q := by
  obtain ⟨vs, hR, hm⟩ := h
  refine ⟨vs, hR.step hs h0, fun i u hu => (hm i u hu).step hs (h1 _ ?_)⟩
  have := (List.getElem?_eq_some_iff.1 hu).1
  have := hR.1.1
  omega
theorem bk_nil (w : World) (T : Nat → Tag) (c : Nat) (e : TypeId) (size : Nat) (pat : Nat → Nat → Value) : Bk w T c e size pat (.slice none 0 0) 0 := ⟨[], row_nil _ _ _ _ _, by simp⟩

/-- What a list's keeping may write. -/
def KeepS (c q : Nat) (s : Tag) : Prop := s = .world ∨ s = ⟨c, 0, 0, 0⟩ ∨ s = ⟨c + 1, q, 0, 0⟩

/-- The tags with all new blocks under t. -/
def fresh (w : World) (T : Nat → Tag) (t : Tag) : Nat → Tag := fun k => if k < w.heap.size then T k else t
theorem fresh_old {w : World} {T : Nat → Tag} {t : Tag} {k : Nat} (h : k < w.heap.size) : fresh w T t k = T k := by simp [fresh, h]
theorem fresh_new {w : World} {T : Nat → Tag} {t : Tag} {k : Nat} (h : w.heap.size ≤ k) : fresh w T t k = t := by simp [fresh, show ¬ k < w.heap.size by omega]

/-- a list in a row of its own, ready to be written -/
theorem row_ls {w : World} {T : Nat → Tag} {t : Tag} {e : TypeId} {size : Nat} {ao : Option Addr} {n cap : Nat} {xs : List Value} (h : Row w T t e size (.slice ao n cap) n xs) (pat : Nat → Value) :
    ∃ g, Ls w e size g pat ao 0 cap ∧ n ≤ cap ∧ (ao = none → n = 0) ∧ g ≤ w.heap.size ∧ fresh w T t g = t := by
  rcases h.1.2 with ⟨e, rfl⟩ | ⟨g, cap', cur, e, _, hg, h1, h2, h3, _⟩
  · cases e
    exact ⟨w.heap.size, .inl ⟨rfl, rfl, rfl⟩, Nat.le_refl _, fun _ => rfl, Nat.le_refl _, fresh_new (Nat.le_refl _)⟩
  · cases e
    have hlt := (Array.getElem?_eq_some_iff.1 hg).1
    exact ⟨g, .inr ⟨rfl, Nat.zero_le _, h2, fun j hj => by omega, cur, hg, h3⟩, h1, (fun e => by cases e), Nat.le_of_lt hlt, (fresh_old hlt).trans (h.2 g rfl)⟩

theorem Ls.lt {w : World} {e : TypeId} {size g : Nat} {pat : Nat → Value} {ao : Option Addr} {k cap : Nat} (h : Ls w e size g pat ao k cap) (hne : ao ≠ none) : g < w.heap.size ∧ ao = some ⟨g, 0, none⟩ := by
  rcases h with ⟨e, _⟩ | ⟨e, _, _, _, cur, hg, _⟩
  · exact absurd e hne
  · exact ⟨(Array.getElem?_eq_some_iff.1 hg).1, e⟩
theorem Ls.cells {w : World} {e : TypeId} {size g : Nat} {pat : Nat → Value} {ao : Option Addr} {k cap : Nat} (h : Ls w e size g pat ao k cap) (hne : ao ≠ none) (j : Nat) (hj : j < cap * size) : (∃ u, w.cell? ⟨g, j, none⟩ = some u) ∧ w.frozen? ⟨g, j, none⟩ = false := by
  rcases h with ⟨e, _⟩ | ⟨e, h2, h3, hp, cur, hg, hs⟩
  · exact absurd e hne
  · refine ⟨⟨cur[j]'(by omega), ?_⟩, by simp [World.frozen?, hg]⟩
    simp [World.cell?, hg, show j < cur.size by omega]
/-- the next cell, written as the pattern asks -/
theorem Ls.put {w : World} {e : TypeId} {size g : Nat} {pat : Nat → Value} {ao : Option Addr} {cap : Nat} (_hne : ao ≠ none) (j : Nat) (hj : j < cap * size) (v : Value) (hv : v = pat j)
    (h : ao = some ⟨g, 0, none⟩ ∧ cap ≤ maxLen ∧ Pat w g pat j ∧ ∃ cur, w.heap[g]? = some (.cells cur e (0, 0)) ∧ cur.size = cap * size) :
    ao = some ⟨g, 0, none⟩ ∧ cap ≤ maxLen ∧ Pat (w.setCell ⟨g, j, none⟩ v) g pat (j + 1) ∧ ∃ cur, (w.setCell ⟨g, j, none⟩ v).heap[g]? = some (.cells cur e (0, 0)) ∧ cur.size = cap * size := by
  obtain ⟨e, h3, hp, cur, hg, hs⟩ := h
  have hh := heap_setCell_same w g j cur _ v hg
  refine ⟨e, h3, fun i hi => ?_, _, hh, by simpa using hs⟩
  simp only [World.cell?, hh, Option.isSome_none, Bool.false_eq_true, if_false]
  by_cases h0 : i = j
  · subst h0
    rw [Array.getElem?_setIfInBounds_self_of_lt (by omega), hv]
  · rw [Array.getElem?_setIfInBounds_ne (fun x => h0 x.symm)]
    have := hp i (by omega)
    simpa [World.cell?, hg] using this

/-- What stands in memory while a list is written full: the list, and the mark in block mb. -/
structure KS (w wx : World) (e : TypeId) (size : Nat) (pat : Nat → Value) (g mb : Nat) (mc : Array Value) (ao : Option Addr) (k cap : Nat) : Prop where
  kept : Kept (fun b => b = g) w wx
  ls : Ls wx e size g pat ao k cap
  box : wx.heap[mb]? = some (.cells mc e (0, 0))
  ne : mb ≠ g

theorem KS.lt {w wx : World} {e : TypeId} {size g mb : Nat} {pat : Nat → Value} {mc : Array Value} {ao : Option Addr} {k cap : Nat} (h : KS w wx e size pat g mb mc ao k cap) : mb < wx.heap.size := by
  rcases Nat.lt_or_ge mb wx.heap.size with h1 | h1
  · exact h1
  · have := h.box; rw [Array.getElem?_eq_none h1] at this; cases this
theorem KS.cell {w wx : World} {e : TypeId} {size g mb : Nat} {pat : Nat → Value} {mc : Array Value} {ao : Option Addr} {k cap : Nat} (h : KS w wx e size pat g mb mc ao k cap) {j : Nat} {u : Value} (hj : mc[j]? = some u) : wx.cell? ⟨mb, j, none⟩ = some u := by
  simp [World.cell?, h.box, hj]
theorem KS.on {w wx wy : World} {e : TypeId} {size g mb : Nat} {pat : Nat → Value} {mc : Array Value} {ao : Option Addr} {k k' cap : Nat} (h : KS w wx e size pat g mb mc ao k cap) (hk : Kept (fun b => b = g) wx wy) (hls : Ls wy e size g pat ao k' cap) : KS w wy e size pat g mb mc ao k' cap :=
  ⟨h.kept.trans hk (fun _ _ x => x), hls, by rw [hk.block mb h.lt h.ne]; exact h.box, h.ne⟩
theorem KS.alloc {w wx : World} {e : TypeId} {size g mb : Nat} {pat : Nat → Value} {mc : Array Value} {ao : Option Addr} {k cap : Nat} (h : KS w wx e size pat g mb mc ao k cap) (o : Obj) : KS w (wx.alloc o) e size pat g mb mc ao k cap :=
  have hb := (Below.refl wx.heap.size wx).alloc (Nat.le_refl _) o
  h.on (kept_of_below _ hb) (h.ls.kept (kept_of_below (fun _ => False) hb) (fun x => x))

/-- One of the longer lists stays marked while another one is made. -/
theorem pat_on {w w' : World} {g b : Nat} {pat : Nat → Value} {k : Nat} (h : Pat w b pat k) (hb : b < w.heap.size) (hk : Kept (fun x => x = g) w w') (hg : ∀ k, g < w.heap.size → Pat w g pat k → Pat w' g pat k) : Pat w' b pat k := by
  by_cases e : b = g
  · subst e; exact hg k hb h
  · exact h.kept hk hb e
theorem pat_next {w2 w3 : World} {o : Obj} {g b : Nat} {pat : Nat → Value} {k : Nat} (h : Pat w2 b pat k) (hb : b < w2.heap.size) (kp : Kept (fun x => x = g) (w2.alloc o) w3)
    (pr : ∀ k, g < (w2.alloc o).heap.size → Pat (w2.alloc o) g pat k → Pat w3 g pat k) : Pat w3 b pat k ∧ b < w3.heap.size := by
  have hb2 := (Below.refl w2.heap.size w2).alloc (Nat.le_refl _) o
  have h2 : Pat (w2.alloc o) b pat k := h.kept (kept_of_below (fun _ => False) hb2) hb (fun x => x)
  exact ⟨pat_on h2 (Nat.lt_of_lt_of_le hb hb2.size) kp pr, Nat.lt_of_lt_of_le hb (Nat.le_trans hb2.size kp.size)⟩

theorem mk_of {w4 : World} {T : Nat → Tag} {t : Tag} {size : Nat} {pat : Nat → Value} {b n cap : Nat} (hn : n ≤ 1099511627776) (hp : Pat w4 b pat (n * size)) (hb : b < w4.heap.size) (h : T b = t) : Mk w4 T t size pat (.slice (some ⟨b, 0, none⟩) n cap) :=
  ⟨_, n, cap, rfl, hn, .inr ⟨b, rfl, h, hb, hp⟩⟩
theorem ls_mk {wx : World} {T : Nat → Tag} {t : Tag} {e : TypeId} {size g : Nat} {pat : Nat → Value} {ao : Option Addr} {n cap : Nat} (h : Ls wx e size g pat ao n cap) (hn : n ≤ 1099511627776) (ht : T g = t) : Mk wx T t size pat (.slice ao n cap) := by
  refine ⟨ao, n, cap, rfl, hn, ?_⟩
  rcases h with ⟨_, h, _⟩ | ⟨e, _, _, hp, cur, hg, _⟩
  · exact .inl h
  · exact .inr ⟨g, e, ht, (Array.getElem?_eq_some_iff.1 hg).1, hp⟩
theorem news_blk (w : World) (cs : Array Value) (e : TypeId) (l : List Value) (h : cs.toList = l) : ∀ j u, l[j]? = some u → (w.alloc (.cells cs e)).cell? ((⟨w.heap.size, 0, none⟩ : Addr).add j) = some u := by
  rw [← h]; exact World.news_of_block (cs := cs) (heap_alloc_new w _)

/-- the step up to the four lists' being there -/
theorem step_keep {w w6 : World} {T : Nat → Tag} {t : Tag} {g : Nat} (hk : Kept (fun b => b = g) w w6) (hg : fresh w T t g = t) : Step (fun s => s = t) w T w6 (fresh w T t) :=
  step_kept hk (fun k hlt e => by subst e; rw [fresh_old hlt] at hg; exact hg) (fun k hk => fresh_old hk)

/-- What the book is when four lists more have come in. -/
theorem keep_end {w6 w7 w8 w9 : World} {T1 T8 : Nat → Tag} {c q : Nat} {e : TypeId} {size : Nat} {pat : Nat → Nat → Value} {v' : Value} {l1 l2 l3 l4 : Value} {vs : List Value}
    (hm : ∀ i u, vs[i]? = some u → Mk w6 T1 ⟨c + 1, i / 4, 0, 0⟩ size (pat (i / 4)) u) (hl : vs.length = 4 * q)
    (m1 : Mk w6 T1 ⟨c + 1, q, 0, 0⟩ size (pat q) l1) (m2 : Mk w6 T1 ⟨c + 1, q, 0, 0⟩ size (pat q) l2) (m3 : Mk w6 T1 ⟨c + 1, q, 0, 0⟩ size (pat q) l3) (m4 : Mk w6 T1 ⟨c + 1, q, 0, 0⟩ size (pat q) l4)
    (h7 : Step (fun _ => False) w6 T1 w7 T1) (h8 : Step (fun s => s = ⟨c, 0, 0, 0⟩) w7 T1 w8 T8) (hR : Row w8 T8 ⟨c, 0, 0, 0⟩ e 1 v' (4 * q + 4) (vs ++ [l1, l2, l3, l4])) (h9 : Step (fun s => s = .world) w8 T8 w9 T8) (hc : c ≠ 2 ∧ c + 1 ≠ 2) :
    Bk w9 T8 c e size pat v' (q + 1) := by
  have hs : Step (fun s => s = .world ∨ s = ⟨c, 0, 0, 0⟩) w6 T1 w9 T8 := ((h7.mono (fun _ h => h.elim)).trans (h8.mono (fun _ h => .inr h))).trans (h9.mono (fun _ h => .inl h))
  have hn : ∀ k, ¬ ((⟨c + 1, k, 0, 0⟩ : Tag) = .world ∨ (⟨c + 1, k, 0, 0⟩ : Tag) = ⟨c, 0, 0, 0⟩) := by
    rintro k (h | h)
    · have := congrArg Tag.c h; simp at this; omega
    · have := congrArg Tag.c h; simp at this
  refine ⟨vs ++ [l1, l2, l3, l4], hR.step h9 (fun h => ?_), fun i u hu => ?_⟩
  · have := congrArg Tag.c h; simp at this; omega
  · by_cases hi : i < 4 * q
    · rw [List.getElem?_append_left (by omega)] at hu
      exact (hm i u hu).step hs (hn _)
    · rw [List.getElem?_append_right (by omega)] at hu
      have hi4 : i - vs.length < 4 := by
        have := (List.getElem?_eq_some_iff.1 hu).1
        simpa using this
      have hq : i / 4 = q := by omega
      rw [hq]
      generalize i - vs.length = t at *
      match t, hi4, hu with
      | 0, _, hv => simp at hv; subst hv; exact m1.step hs (hn _)
      | 1, _, hv => simp at hv; subst hv; exact m2.step hs (hn _)
      | 2, _, hv => simp at hv; subst hv; exact m3.step hs (hn _)
      | 3, _, hv => simp at hv; subst hv; exact m4.step hs (hn _)

theorem pairVals_at : ∀ (l : List (Int × Int)) (k : Nat) (x : Int × Int), l[k]? = some x → (pairVals l)[k * 2]? = some (.int .i64 x.1) ∧ (pairVals l)[k * 2 + 1]? = some (.int .i64 x.2)
  | [], _, _, h => by simp at h
  | y :: r, 0, x, h => by simp at h; subst h; simp [pairVals]
  | y :: r, k + 1, x, h => by
    have h2 := pairVals_at r k x (by simpa using h)
    have e : ∀ j, (k + 1) * 2 + j = (k * 2 + j) + 2 := fun j => by omega
    refine ⟨?_, ?_⟩
    · rw [show (k + 1) * 2 = k * 2 + 2 by omega]; simpa [pairVals] using h2.1
    · rw [e]; simpa [pairVals] using h2.2

attribute [local go_sem] over_cell

set_option maxRecDepth 100000 in
set_option maxHeartbeats 1000000 in
theorem sameR_any (l : List (Int × Int)) (v v' : Value) (T T' : Nat → Tag) (t t' : Tag) (w : World) (h1 : Row w T t 31 2 v l.length (pairVals l)) (h2 : Row w T' t' 31 2 v' l.length (pairVals l)) (hlen : l.length ≤ 4000000) :
    Calls Try.prog 30 #[v, v'] w fun e w' => e = .returned (.bool true) ∧ Below w.heap.size w w' := by
  obtain ⟨ao, cap, rfl⟩ := row_form h1
  obtain ⟨ao', cap', rfl⟩ := row_form h2
  go_enter Try.func30, Try.ntmps30
  go_wp2
  go_loopw [5] (fun i wr => ∃ k : Nat, k ≤ l.length ∧ i = .int .i64 k ∧ Below w.heap.size w wr) (fun i _ => l.length - (intOf i).toNat)
  case atStart => exact ⟨0, Nat.zero_le _, rfl, Below.refl _ _⟩
  case round =>
    obtain ⟨k, hk, rfl, hb⟩ := hrel
    by_cases hlt : k < l.length
    · obtain ⟨x, hx⟩ : ∃ x, l[k]? = some x := ⟨_, List.getElem?_eq_getElem hlt⟩
      obtain ⟨a, ca, e⟩ := row_some h1 (by omega)
      cases e
      obtain ⟨a', ca', e⟩ := row_some h2 (by omega)
      cases e
      have l1 := h1.lt
      have l2 := h2.lt
      obtain ⟨d0, d1⟩ := pairVals_at l k x hx
      have c0 := (hb.cell (p := ⟨a, k * 2, none⟩) l1).trans (h1.cell d0)
      have c1 := (hb.cell (p := ⟨a, k * 2 + 1, none⟩) l1).trans (h1.cell d1)
      have b0 := (hb.cell (p := ⟨a', k * 2, none⟩) l2).trans (h2.cell d0)
      have b1 := (hb.cell (p := ⟨a', k * 2 + 1, none⟩) l2).trans (h2.cell d1)
      have m1 := Nat.lt_of_lt_of_le l1 hb.size
      have m2 := Nat.lt_of_lt_of_le l2 hb.size
      clear d0 d1
      go_wp2_with fail
      refine wp_region_over (by kernel_rfl) (by kernel_rfl) ?_
      repeat (go_big_quiet_step (fail))
      refine wpQuiet_nil ?_
      rintro _ ⟨x5, rfl⟩
      have hov := hb.trans ((over_below wr x5).mono hb.size)
      generalize over wr x5 = w5 at *
      go_wp2
      exact ⟨⟨k + 1, by omega, by simp, hov⟩, by simp [intOf]; omega⟩
    · go_wp2
      go_ret
      exact ⟨rfl, hb⟩

end Go.Proofs.Ytgcbooflhdjnhaa

/- The stands of a log: how they lie in memory, what each of them holds; the pair of All. -/
import Derived.Test.YtockkceclkcgbaaGreatDoorA41
import Derived.Test.YtockkceclkcgbaaGreatDoorA42
import Derived.Test.YtockkceclkcgbaaGreatDoorA33
namespace Go.Proofs.YtockkceclkcgbaaGreatDoor
open Go.RowKit

/-- numbers that no pair bears -/
def HI : Nat := 1000000000000000000
abbrev Tag.st (i : Nat) : Tag := ⟨15, i, 0, 0⟩

/-- A stand: the number and the block of the document's queue then, that queue, its log. -/
structure Stand where
  j : Nat
  b : Nat
  m : MQ
  gh : Nat × Bs

def standCells : List Stand → List Value
  | [] => []
  | s :: r => .int .i64 (s.gh.2.length : Int) :: .pointer (some ⟨s.b, 0, none⟩) :: standCells r
theorem standCells_snoc : ∀ (l : List Stand) (s : Stand), standCells (l ++ [s]) = standCells l ++ [.int .i64 (s.gh.2.length : Int), .pointer (some ⟨s.b, 0, none⟩)]
  | [], _ => rfl
  | x :: r, s => by simp [standCells, standCells_snoc r s]
theorem standCells_length : ∀ l : List Stand, (standCells l).length = l.length * 2
  | [] => rfl
  | x :: r => by simp [standCells, standCells_length r]; omega
theorem standCells_at : ∀ (l : List Stand) (k : Nat) (s : Stand), l[k]? = some s → (standCells l)[k * 2]? = some (.int .i64 (s.gh.2.length : Int)) ∧ (standCells l)[k * 2 + 1]? = some (.pointer (some ⟨s.b, 0, none⟩))
  | [], _, _, h => by simp at h
  | x :: r, 0, s, h => by
    simp at h
    subst h
    exact ⟨rfl, rfl⟩
  | x :: r, k + 1, s, h => by
    have h2 := standCells_at r k s (by simpa using h)
    rw [show (k + 1) * 2 = k * 2 + 1 + 1 by omega, show k * 2 + 1 + 1 + 1 = k * 2 + 1 + 1 + 1 from rfl]
    exact ⟨h2.1, h2.2⟩
theorem standCells_take : ∀ (l : List Stand) (k : Nat), (standCells l).take (k * 2) = standCells (l.take k)
  | [], k => by simp [standCells]
  | x :: r, 0 => by simp [standCells]
  | x :: r, k + 1 => by
    rw [show (k + 1) * 2 = k * 2 + 1 + 1 by omega]
    simp [standCells, standCells_take r k]

/-- What holds of a stand. -/
structure SOk (B : Int) (c : Conf) (s : Stand) : Prop where
  conf : s.m.c = c
  fit : s.m.Fit B
  calm : Calm (wakeM s.m 0)
  log : LogIs s.m s.gh.2 s.gh.1
  logw : LogIs (wakeM s.m 0) s.gh.2 s.gh.1
  core : coreM (wakeM s.m 0) = coreM s.m
theorem SOk.mono {B B' : Int} {c : Conf} {s : Stand} (h : SOk B c s) (hB : B ≤ B') : SOk B' c s := ⟨h.conf, h.fit.mono hB, h.calm, h.log, h.logw, h.core⟩
theorem sok_of {B : Int} {w : World} {T : Nat → Tag} {i b j jb : Nat} {m : MQ} {gh : Nat × Bs} (h : XG w T i b m gh) (hf : m.Fit B) : SOk B m.c ⟨j, jb, m, gh⟩ := by
  obtain ⟨vL, hx, h2, h3⟩ := h
  have hc := (wake_core (ch := 0) hx.rels hf.ok hx.small).1
  exact ⟨rfl, hf, calm_wake hx hf.ok, h2, h2.same rfl hc, hc⟩

/-- One record lies between two stands. -/
def Link (a b : Stand) : Prop := ∃ (k : UInt8) (d : Bs), mayCut k = true ∧ d.length < 256 ^ 3 ∧ b.gh = (recS a.gh.1 k d, a.gh.2 ++ recB a.gh.1 k d)

/-- The stands of the pair of number i, of the configuration c, whose log is gh. -/
structure StM (B : Int) (w : World) (T : Nat → Tag) (i : Nat) (vs : Value) (c : Conf) (gh : Nat × Bs) (st : List Stand) : Prop where
  row : Row w T (.st i) 98 2 vs st.length (standCells st)
  cps : ∀ s ∈ st, HI ≤ s.j ∧ YQ w T s.j s.b s.m.rq ∧ SOk B c s
  link : ∀ (k : Nat) (a b : Stand), st[k]? = some a → st[k + 1]? = some b → Link a b
  last : ∃ l s, st = l ++ [s] ∧ s.gh = gh

/-- No stand's queue is touched. -/
def Far (S : Tag → Prop) (w : World) (T : Nat → Tag) : Prop := ∀ k, k < w.heap.size → HI ≤ (T k).i → ∀ r q, ¬ S (.y (T k).i r q)

theorem YQ.at {w : World} {T : Nat → Tag} {i b : Nat} {q : RQ} (h : YQ w T i b q) : b < w.heap.size ∧ T b = .y i 0 0 := by
  obtain ⟨_, _, _, vB, vG, vi, vd, hB, _⟩ := h
  exact ⟨hB.lt, hB.1⟩
theorem StM.step {B : Int} {S : Tag → Prop} {w w' : World} {T T' : Nat → Tag} {i : Nat} {vs : Value} {c : Conf} {gh : Nat × Bs} {st : List Stand} (h : StM B w T i vs c gh st) (hs : Step S w T w' T') (h0 : ¬ S (.st i)) (h1 : Far S w T) : StM B w' T' i vs c gh st := by
  refine ⟨h.row.step hs h0, fun s hm => ?_, h.link, h.last⟩
  obtain ⟨a, b, d⟩ := h.cps s hm
  obtain ⟨e1, e2⟩ := b.at
  refine ⟨a, b.step hs (fun r k => ?_), d⟩
  have := h1 s.b e1 (by rw [e2]; exact a) r k
  rw [e2] at this
  exact this
theorem StM.mono {B B' : Int} {w : World} {T : Nat → Tag} {i : Nat} {vs : Value} {c : Conf} {gh : Nat × Bs} {st : List Stand} (h : StM B w T i vs c gh st) (hB : B ≤ B') : StM B' w T i vs c gh st :=
  ⟨h.row, fun s hm => ⟨(h.cps s hm).1, (h.cps s hm).2.1, (h.cps s hm).2.2.mono hB⟩, h.link, h.last⟩

/-- The pair of number i, in block p: a queue and the document's, which are the same; its stands; its log. -/
def PairA (B : Int) (w : World) (T : Nat → Tag) (i p : Nat) : Prop :=
  ∃ (vs : Value) (m : MQ) (gh : Nat × Bs) (st : List Stand), PairZ (XAt m gh) B vs (mkB gh.2) w T i p ∧ StM B w T i vs m.c gh st ∧ (st.length : Int) * 60000 ≤ B + 60000
theorem PairA.step {B : Int} {S : Tag → Prop} {w w' : World} {T T' : Nat → Tag} {i p : Nat} (h : PairA B w T i p) (hs : Step S w T w' T') (h1 : ¬ S (.pair i)) (h2 : ∀ t, XT i t → ¬ S t) (h3 : ∀ r k, ¬ S (.y i r k)) (h4 : ¬ S (.st i)) (h5 : Far S w T) : PairA B w' T' i p := by
  obtain ⟨vs, m, gh, st, hp, hst, hn⟩ := h
  exact ⟨vs, m, gh, st, hp.step (xz m gh 0 (by decide)) hs h1 h2 h3, hst.step hs h4 h5, hn⟩
theorem PairA.mono {B B' : Int} {w : World} {T : Nat → Tag} {i p : Nat} (h : PairA B w T i p) (hB : B ≤ B') : PairA B' w T i p := by
  obtain ⟨vs, m, gh, st, hp, hst, hn⟩ := h
  exact ⟨vs, m, gh, st, hp.mono hB, hst.mono hB, by omega⟩

/-- the tags that stood, crashed and compacted may write at the pair of number i; j: a number that nothing bears -/
def OneS (i j : Nat) (t : Tag) : Prop := ST i t ∨ t = .pair i ∨ t = .st i ∨ (∃ r k, t = .y j r k) ∨ t = .free
/-- a number that nothing bears -/
def Fresh (j : Nat) (w : World) (T : Nat → Tag) : Prop := HI ≤ j ∧ ∀ k, k < w.heap.size → (T k).i < j
theorem fresh_hi (w : World) (T : Nat → Tag) : ∃ j, Fresh j w T := by
  obtain ⟨m, hm⟩ := fresh_num T w.heap.size
  exact ⟨HI + m, by omega, fun k hk => by have := hm k hk; omega⟩
theorem far_one {i j : Nat} {w : World} {T : Nat → Tag} (hi : i < HI) (hj : Fresh j w T) : Far (OneS i j) w T := by
  intro k hk ha r q h
  have hl := hj.2 k hk
  rcases h with (h | ⟨r', q', h⟩) | h | h | ⟨r', q', h⟩ | h
  · exact absurd h.1 (by simp)
  · have : (T k).i = i := congrArg Tag.i h
    omega
  · exact absurd (congrArg Tag.c h) (by simp)
  · exact absurd (congrArg Tag.c h) (by simp)
  · have : (T k).i = j := congrArg Tag.i h
    omega
  · exact absurd (congrArg Tag.c h) (by simp)
theorem far_call {k : Nat} {w : World} {T : Nat → Tag} (hk : k < HI) : Far (CallS k) w T := by
  intro b _ ha r q h
  rcases h with (h | ⟨r', q', h⟩) | h | h
  · exact absurd h.1 (by simp)
  · have : (T b).i = k := congrArg Tag.i h
    omega
  · exact absurd (congrArg Tag.c h) (by simp)
  · have := h.1
    simp at this
theorem Far.sub {S S' : Tag → Prop} {w : World} {T : Nat → Tag} (h : Far S w T) (hS : ∀ t, S' t → S t) : Far S' w T := fun k hk ha r q h2 => h k hk ha r q (hS _ h2)
/-- the tags that a Copy and the stand behind it write -/
def CpA (i j : Nat) (t : Tag) : Prop := t = .pair i ∨ t = .st i ∨ (∃ r k, t = .y j r k) ∨ t = .free
theorem cpA_one {i j : Nat} : ∀ t, CpA i j t → OneS i j t := fun _ h => .inr h
theorem cp_A {i j : Nat} : ∀ t, CpS j t → CpA i j t := by
  rintro t (h | h)
  · exact .inr (.inr (.inl h))
  · exact .inr (.inr (.inr h))
theorem cpA_x {i j k : Nat} : ∀ t, XT k t → ¬ CpA i j t := by
  rintro t h1 (h | h | ⟨r, q, h⟩ | h)
  all_goals rw [h] at h1; exact absurd h1.1 (by simp)

/-- the texts of the stands begin the log -/
theorem chain_front {st : List Stand} (hl : ∀ (k : Nat) (a b : Stand), st[k]? = some a → st[k + 1]? = some b → Link a b) : ∀ (n k : Nat) (a b : Stand), st[k]? = some a → st[k + n]? = some b → ∃ r, b.gh.2 = a.gh.2 ++ r
  | 0, k, a, b, ha, hb => by
    rw [Nat.add_zero] at hb
    rw [ha] at hb
    cases hb
    exact ⟨[], by simp⟩
  | n + 1, k, a, b, ha, hb => by
    have hlt : k + (n + 1) < st.length := (List.getElem?_eq_some_iff.1 hb).1
    obtain ⟨x, hx⟩ : ∃ x, st[k + 1]? = some x := ⟨_, List.getElem?_eq_getElem (by omega)⟩
    obtain ⟨r, hr⟩ := chain_front hl n (k + 1) x b hx (by rw [show k + 1 + n = k + (n + 1) by omega]; exact hb)
    obtain ⟨u, d, _, _, e⟩ := hl k a x ha hx
    rw [hr, e]
    exact ⟨recB a.gh.1 u d ++ r, by simp⟩
theorem link_len {a b : Stand} (h : Link a b) : a.gh.2.length < b.gh.2.length := by
  obtain ⟨k, d, _, _, e⟩ := h
  rw [e]
  simp [recB_length]
/-- a log cut at n: the last stand that is no longer, and a part of the record behind it -/
theorem cut_at {st : List Stand} {gh : Nat × Bs} (hl : ∀ (k : Nat) (a b : Stand), st[k]? = some a → st[k + 1]? = some b → Link a b) (hlast : ∃ l s, st = l ++ [s] ∧ s.gh = gh) {at_ n : Nat} {a : Stand} (ha : st[at_]? = some a) (hn : a.gh.2.length ≤ n) (hle : n ≤ gh.2.length)
    (hnext : ∀ b, st[at_ + 1]? = some b → n < b.gh.2.length) : gh.2.take n = a.gh.2 ∨ ∃ (p r d : Bs) (k : UInt8), gh.2.take n = a.gh.2 ++ p ∧ mayCut k = true ∧ d.length < 256 ^ 3 ∧ p ++ r = recB a.gh.1 k d ∧ r ≠ [] := by
  obtain ⟨l, s, rfl, rfl⟩ := hlast
  have hlt : at_ < (l ++ [s]).length := (List.getElem?_eq_some_iff.1 ha).1
  have hs : (l ++ [s])[l.length]? = some s := by simp
  simp only [List.length_append, List.length_singleton] at hlt
  by_cases he : at_ = l.length
  · subst he
    rw [hs] at ha
    cases ha
    exact .inl (by rw [List.take_of_length_le (by omega)])
  · obtain ⟨b, hb⟩ : ∃ b, (l ++ [s])[at_ + 1]? = some b := ⟨_, List.getElem?_eq_getElem (by simp; omega)⟩
    obtain ⟨k, d, hk, hd, e⟩ := hl _ a b ha hb
    obtain ⟨r, hr⟩ := chain_front hl (l.length - (at_ + 1)) (at_ + 1) b s hb (by rw [show at_ + 1 + (l.length - (at_ + 1)) = l.length by omega]; exact hs)
    have hnb := hnext b hb
    rw [hr, e]
    rw [e] at hnb
    simp only [List.length_append] at hnb
    refine .inr ⟨(recB a.gh.1 k d).take (n - a.gh.2.length), (recB a.gh.1 k d).drop (n - a.gh.2.length), d, k, ?_, hk, hd, List.take_append_drop _ _, ?_⟩
    · show List.take n ((a.gh.2 ++ recB a.gh.1 k d) ++ r) = _
      rw [List.append_assoc, List.take_append, List.take_of_length_le hn, List.take_append_of_le_length (by omega)]
    · intro h
      have := congrArg List.length h
      rw [List.length_drop] at this
      simp at this
      omega

/-- Open of a log that was cut at n: the queue of the stand, as it wakes -/
theorem xopenA_cut (a0 a1 : Addr) (B : Int) (c : Conf) (st : List Stand) (gh : Nat × Bs) (hl : ∀ (k : Nat) (a b : Stand), st[k]? = some a → st[k + 1]? = some b → Link a b) (hlast : ∃ l s, st = l ++ [s] ∧ s.gh = gh) (at_ n : Nat) (a : Stand) (ha : st[at_]? = some a) (hok : SOk B c a) (hn : a.gh.2.length ≤ n) (hle : n ≤ gh.2.length)
    (hnext : ∀ b, st[at_ + 1]? = some b → n < b.gh.2.length) (i : Nat) (w : World) (T : Nat → Tag) (hLd : Laid w T a0 a1) :
    Calls Tryz.prog 25 #[.agg c.cells, .string (mkB (gh.2.take n))] w fun e w' => ∃ b, e = .returned (.tuple #[.pointer (some ⟨b, 0, none⟩), .int .i64 0]) ∧ ∃ T', Step (fun _ => False) w T w' T' ∧ XG w' T' i b (wakeM a.m 0) a.gh := by
  have hc := hok.conf
  subst hc
  rcases cut_at hl hlast ha hn hle hnext with e | ⟨p, r, d, k, e, hk, hd, hp, hr⟩
  · rw [e]
    exact xopenG_any a0 a1 a.m a.gh i hok.fit.ok hok.calm hok.log hok.logw hok.core w T hLd
  · rw [e]
    exact xopenCut_any a0 a1 a.m a.gh p r d k i hok.fit.ok hok.calm hok.log hok.logw hok.core hd hk hp hr w T hLd

/-- the first stands alone -/
theorem StM.cut {B : Int} {w : World} {T : Nat → Tag} {i g cap : Nat} {c : Conf} {gh : Nat × Bs} {st : List Stand} {n : Nat} {a : Stand} (h : StM B w T i (.slice (some ⟨g, 0, none⟩) st.length cap) c gh st) (ha : st[n]? = some a) : StM B w T i (.slice (some ⟨g, 0, none⟩) (n + 1) cap) c a.gh (st.take (n + 1)) := by
  have hlt : n < st.length := (List.getElem?_eq_some_iff.1 ha).1
  have hlen : (st.take (n + 1)).length = n + 1 := by rw [List.length_take]; omega
  refine ⟨?_, fun s hs => h.cps s (List.mem_of_mem_take hs), fun k a b h1 h2 => ?_, st.take n, a, ?_, rfl⟩
  · obtain ⟨⟨h1, h2⟩, h3⟩ := h.row
    rw [hlen]
    refine ⟨⟨by rw [standCells_length, hlen], .inr ?_⟩, h3⟩
    rcases h2 with ⟨e, _⟩ | ⟨g', cap', cur, e, hb, hc, hle, hm, hs, ht⟩
    · cases e
    · cases e
      refine ⟨g, cap, cur, rfl, hb, hc, by omega, hm, hs, ?_⟩
      rw [← standCells_take, ← ht, List.take_take, Nat.min_eq_left (Nat.mul_le_mul_right 2 (by omega))]
  · rw [List.getElem?_take] at h1 h2
    split at h1
    · split at h2
      · exact h.link k a b h1 h2
      · cases h2
    · cases h1
  · obtain ⟨hl, rfl⟩ := List.getElem?_eq_some_iff.1 ha
    exact List.take_succ_eq_append_getElem hl

end Go.Proofs.YtockkceclkcgbaaGreatDoor

/- What Compact writes of a group: putGroup. -/
namespace Go.Proofs.YtockkceclkcgbaaGreatDoor
open Go.RowKit Go.Maps

/-- the tag of what is being written -/
abbrev wT (i : Nat) : Tag := .q i 1 2

theorem rowN_one (w : World) (T : Nat → Tag) (t : Tag) (a : Int) : Row (w.alloc (.cells #[.int .i64 a] 3)) (retag T w.heap.size t) t 3 1 (.slice (some ⟨w.heap.size, 0, none⟩) 1 1) 1 ([a].map intV) :=
  ⟨⟨rfl, .inr ⟨w.heap.size, 1, _, rfl, Nat.zero_le _, heap_alloc_new w _, Nat.le_refl _, by decide, rfl, rfl⟩⟩, fun g hg => by simp [Value.ownBlock] at hg; subst hg; exact retag_same _ _ _⟩
theorem rowN_two (w : World) (T : Nat → Tag) (t : Tag) (a b : Int) : Row (w.alloc (.cells #[.int .i64 a, .int .i64 b] 3)) (retag T w.heap.size t) t 3 1 (.slice (some ⟨w.heap.size, 0, none⟩) 2 2) 2 ([a, b].map intV) :=
  ⟨⟨rfl, .inr ⟨w.heap.size, 2, _, rfl, Nat.zero_le _, heap_alloc_new w _, Nat.le_refl _, by decide, rfl, rfl⟩⟩, fun g hg => by simp [Value.ownBlock] at hg; subst hg; exact retag_same _ _ _⟩
theorem nums_one (a : Int) : numsB [a] = encN 2 a.toNat := by simp [numsB]
theorem nums_two (a b : Int) : numsB [a, b] = encN 2 a.toNat ++ encN 2 b.toNat := by simp [numsB]
/-- one number more -/
theorem putOne_any (i : Nat) (v : Value) (l : Bs) (a : Int) (w : World) (T : Nat → Tag) (h : BRow w T (wT i) v l) (ha : 0 ≤ a ∧ a < 65536) (hl : l.length ≤ 10000000000000) :
    Calls Tryz.prog 94 #[v, .slice (some ⟨w.heap.size, 0, none⟩) 1 1] (w.alloc (.cells #[.int .i64 a] 3)) fun e w' => ∃ v' T', e = .returned v' ∧ Step (fun s => s = wT i) w T w' T' ∧ BRow w' T' (wT i) v' (l ++ encN 2 a.toNat) := by
  have sn := step_new w T (.cells #[.int .i64 a] 3) .free (fun _ => False)
  have hp := putNumbers_any (wT i) .free v _ l [a] _ _ (h.step sn (fun h => h)) (rowN_one w T .free a) (by simp) (by simpa using ha) (by simp; omega)
  rw [nums_one] at hp
  refine hp.mono ?_
  rintro e w' ⟨v', T', rfl, s', r'⟩
  exact ⟨v', T', rfl, (sn.mono (fun _ h => h.elim)).trans s', r'⟩

theorem triesB_succ (g : CG) : ∀ (n : Nat) (o : Int), triesB g (n + 1) o = triesB g n o ++ [byteG g (o + n)]
  | 0, o => by simp [triesB]
  | n + 1, o => by
    rw [triesB, triesB_succ g n (o + 1), triesB]
    simp only [List.cons_append, List.cons.injEq, true_and, List.append_cancel_left_eq, List.cons.injEq, and_true]
    congr 1
    omega
theorem tries_len (g : CG) : ∀ (n : Nat) (o : Int), (triesB g n o).length = n
  | 0, _ => rfl
  | n + 1, o => by rw [triesB, List.length_cons, tries_len g n]
theorem flat_len : ∀ (l : List Dl), (∀ x ∈ l, x.body.size ≤ 64) → (l.flatMap deadB).length ≤ 67 * l.length
  | [], _ => by simp
  | x :: r, h => by
    have h1 := h x (by simp)
    have h2 := flat_len r (fun y hy => h y (by simp [hy]))
    have h3 : x.body.data.toList.length = x.body.size := Array.length_toList
    simp only [List.flatMap_cons, List.length_append, List.length_cons, deadB, textB, encN_length]
    omega
theorem flat_take {l : List Dl} {k : Nat} {x : Dl} (h : l[k]? = some x) : (l.take (k + 1)).flatMap deadB = (l.take k).flatMap deadB ++ deadB x := by
  obtain ⟨hl, rfl⟩ := List.getElem?_eq_some_iff.1 h
  rw [List.take_succ_eq_append_getElem hl, List.flatMap_append]
  simp

attribute [local go_sem] over_cell

set_option maxRecDepth 100000 in
set_option maxHeartbeats 4000000 in
theorem putGroup_any (i k b gb : Nat) (p : PG) (v : Value) (l : Bs) (fl : Int) (n : Nat) (ao : Option Addr) (cap : Nat) (a0 a1 a2 a3 a4 a7 a8 a9 : Value) (w : World) (T : Nat → Tag) (hB : Blk w T (.q i 0 0) b #[a0, a1, a2, a3, a4, .int .i64 fl, .slice ao n cap, a7, a8, a9] 105)
    (hG : GM w T i k gb p) (hr : BRow w T (wT i) v l) (hset : setB p.done = true) (hfl : 0 ≤ fl) (hst : fl + n ≤ 400) (hs0 : 0 ≤ p.start ∧ p.start ≤ fl + n) (htr : ∀ o, 0 ≤ p.tr o ∧ p.tr o ≤ 10) (hdl : p.dead.length ≤ 400) (hdd : ∀ x ∈ p.dead, (0 ≤ x.off ∧ x.off < 400) ∧ x.body.size ≤ 64) (hl : l.length ≤ 1000000) :
    Calls Tryz.prog 102 #[.pointer (some ⟨b, 0, none⟩), v, .pointer (some ⟨gb, 0, none⟩)] w fun e w' => ∃ v' T', e = .returned v' ∧ Step (fun s => s = wT i) w T w' T' ∧
      BRow w' T' (wT i) v' (l ++ (encN 2 p.start.toNat ++ (triesB p.core (fl + n - max fl p.start).toNat (max fl p.start) ++ (encN 2 p.dead.length ++ p.dead.flatMap deadB)))) := by
  have hG0 := hG
  obtain ⟨vD, vE, tb, wb, hBg, hD, hE, hT, hW⟩ := hG0
  have d0 := hBg.cell (j := 0) (v := .int .i64 p.start) rfl
  have lg := hBg.lt
  have hp1 := putOne_any i v l p.start w T hr (by omega) (by omega)
  obtain ⟨vo, vc, rfl⟩ := row_form hr
  clear hBg hD hE hT hW
  go_enter Tryz.func102, Tryz.ntmps102
  go_wp2_with fail
  refine hp1.mono ?_
  clear hp1
  rintro e1 w1 ⟨v1, T1, rfl, s1, r1⟩
  have hB1 := hB.step s1 (by simp)
  have hG1 := hG.step s1 (fun r hr => by simp; omega)
  have lb1 := hB1.lt
  have lg1 := hG1.lt
  have c5 := hB1.cell (j := 5) (v := .int .i64 fl) rfl
  have d01 := hG1.start
  have hfi := qfirst_any b gb fl p.start w1 lb1 lg1 c5 d01
  clear d0 lg hB hG hr
  go_wp2_with fail
  refine hfi.mono ?_
  clear hfi c5 d01
  rintro e2 w2 ⟨rfl, hb2⟩
  have g2 := step_below (fun _ => False) T1 hb2
  have hB2 := hB1.step g2 (fun h => h)
  have hG2 := hG1.step g2 (fun _ _ h => h)
  have r2 := r1.step g2 (fun h => h)
  have s2 := s1.trans (g2.mono (fun _ h => h.elim))
  have hmx : 0 ≤ max fl p.start ∧ max fl p.start ≤ fl + n := by omega
  obtain ⟨o0, ho0⟩ : ∃ o0 : Nat, max fl p.start = o0 := ⟨(max fl p.start).toNat, by omega⟩
  rw [ho0] at hmx ⊢
  obtain ⟨m, hm⟩ : ∃ m : Nat, fl + n - (o0 : Int) = m := ⟨(fl + n - (o0 : Int)).toNat, by omega⟩
  clear hB1 hG1 r1 s1 hb2 g2 lb1 lg1
  have hm4 : m ≤ 400 := by omega
  have hlen1 := encN_length 2 p.start.toNat
  obtain ⟨bs1, hbs1⟩ : ∃ bs1, Hid (encN 2 p.start.toNat = bs1) := ⟨_, hide rfl⟩
  rw [hbs1.out] at r2 hlen1
  have hfin : Hid (∀ x : Bs, l ++ (encN 2 p.start.toNat ++ (triesB p.core (fl + n - max fl p.start).toNat (max fl p.start) ++ x)) = l ++ bs1 ++ triesB p.core m o0 ++ x) := hide (fun x => by rw [hbs1.out, ho0, hm, Int.toNat_natCast]; simp)
  clear hbs1
  go_wp2_with fail
  go_loopw [1, 7] (fun u1 u7 wr => ∃ (o : Nat) (T' : Nat → Tag), o0 ≤ o ∧ o ≤ o0 + m ∧ u7 = .int .i64 o ∧ Step (fun s => s = wT i) w T wr T' ∧ Blk wr T' (.q i 0 0) b #[a0, a1, a2, a3, a4, .int .i64 fl, .slice ao n cap, a7, a8, a9] 105 ∧ GM wr T' i k gb p ∧ BRow wr T' (wT i) u1 (l ++ bs1 ++ triesB p.core (o - o0) o0)) (fun _ u7 _ => (fl + n - intOf u7).toNat)
  case atStart => exact ⟨o0, T1, Nat.le_refl _, by omega, rfl, s2, hB2, hG2, by rw [Nat.sub_self]; simpa [triesB] using r2⟩
  case round =>
    obtain ⟨o, T3, hj0, hj, rfl, s3, hB3, hG3, r3⟩ := hrel
    clear hB2 hG2 r2 s2
    have c5 := hB3.cell (j := 5) (v := .int .i64 fl) rfl
    have c6 := hB3.cell (j := 6) (v := .slice ao n cap) rfl
    have hen := qend_any b fl ao n cap wr hB3.lt c5 c6 hfl (by omega) (by omega)
    have hlt3 := tries_len p.core (o - o0) o0
    have hL3l : (l ++ bs1 ++ triesB p.core (o - o0) o0).length ≤ 1100000 := by simp; omega
    have hnext : ∀ x, byteG p.core ((o0 : Int) + (o - o0 : Nat)) = x → (l ++ bs1 ++ triesB p.core (o - o0) o0) ++ [x] = l ++ bs1 ++ triesB p.core (o + 1 - o0) o0 := fun x hx => by
      rw [show o + 1 - o0 = o - o0 + 1 by omega, triesB_succ, hx, List.append_assoc]
    have hlast : Hid (o = o0 + m → l ++ bs1 ++ triesB p.core (o - o0) o0 = l ++ bs1 ++ triesB p.core m o0) := hide (fun e => by rw [show o - o0 = m by omega])
    replace hnext := hide hnext
    generalize l ++ bs1 ++ triesB p.core (o - o0) o0 = L3 at *
    obtain ⟨v3, v3c, rfl⟩ := row_form r3
    go_wp2_with fail
    refine hen.mono ?_
    clear hen c5 c6
    rintro e4 w4 ⟨rfl, hb4⟩
    have g4 := step_below (fun _ => False) T3 hb4
    have hB4 := hB3.step g4 (fun h => h)
    have hG4 := hG3.step g4 (fun _ _ h => h)
    have r4 := r3.step g4 (fun h => h)
    have s4 := s3.trans (g4.mono (fun _ h => h.elim))
    clear hB3 hG3 r3 s3 hb4 g4
    by_cases hjl : o < o0 + m
    · have hlt : (o : Int) < fl + n := by omega
      have hid := isDone_any i k gb p (o : Int) w4 T3 hG4 hset
      go_wp2_with fail
      refine hid.mono ?_
      clear hid
      rintro e5 w5 ⟨rfl, hb5⟩
      have g5 := step_below (fun _ => False) T3 hb5
      have hB5 := hB4.step g5 (fun h => h)
      have hG5 := hG4.step g5 (fun _ _ h => h)
      have r5 := r4.step g5 (fun h => h)
      have s5 := s4.trans (g5.mono (fun _ h => h.elim))
      clear hB4 hG4 r4 s4 hb5 g5
      cases hdn : hasB p.done (o : Int)
      · obtain ⟨z, hz⟩ : ∃ z : Nat, p.tr (o : Int) = z := ⟨(p.tr (o : Int)).toNat, by have := htr (o : Int); omega⟩
        have hz10 : z ≤ 10 := by have := htr (o : Int); omega
        have hbg : byteG p.core ((o0 : Int) + (o - o0 : Nat)) = UInt8.ofNat z := by
          have e : ((o0 : Int) + (o - o0 : Nat)) = (o : Int) := by omega
          unfold byteG
          rw [e, show p.core.done = p.done from rfl, hdn, show p.core.tr = p.tr from rfl, hz]
          rfl
        obtain ⟨vD, vE, tb, wb, hBg, hD, hE, hT, hW⟩ := id hG5
        have lg5 := hBg.lt
        have d3 := hBg.cell (j := 3) (v := .map (some tb)) rfl
        have lkT := hT.look (n := (o : Int)) (by unfold i64; omega)
        rw [hz] at lkT
        have hbv : byteV (UInt8.ofNat z) = .int .u8 (z : Int) := by
          unfold byteV
          rw [UInt8.toNat_ofNat', Nat.mod_eq_of_lt (by omega)]
        have hmod : (z : Int) % 256 = z := by omega
        have hal := step_alloc w5 T3 (.cells #[.int .u8 (z : Int)] 5) (fun _ => False)
        have hRa := r5.step hal (fun h => h)
        have hsr := src_byte (w5.alloc (.cells #[.int .u8 (z : Int)] 5)) w5.heap.size (UInt8.ofNat z) (by rw [hbv]; exact (blk_new w5 T3 #[.int .u8 (z : Int)] 5 .free).cell (j := 0) rfl)
        clear hBg hD hE hT hW
        go_wp2_with (first
          | (at_builtin; refine wpList_append_bytes rfl _ _ 100 rfl _ L3 rfl hRa _ [UInt8.ofNat z] rfl hsr (by simp; omega) ?_; intro v6 w6 T6 r6 hs6)
          | go_in)
        have hB6 := (hB5.step hal (fun h => h)).step hs6 (by simp)
        have hG6 := (hG5.step hal (fun _ _ h => h)).step hs6 (fun r hr => by simp; omega)
        have s6 := (s5.trans (hal.mono (fun _ h => h.elim))).trans hs6
        rw [hnext.out _ hbg] at r6
        have P6 := hide (And.intro s6 (And.intro hB6 (And.intro hG6 r6)))
        clear s6 hB6 hG6 r6 hB5 hG5 r5 s5 hRa hsr hal hs6
        go_wp2
        exact ⟨⟨o + 1, T6, by omega, by omega, by simp, P6.out.1, P6.out.2.1, P6.out.2.2.1, P6.out.2.2.2⟩, by simp [intOf]; omega⟩
      · have hbg : byteG p.core ((o0 : Int) + (o - o0 : Nat)) = 255 := by
          have e : ((o0 : Int) + (o - o0 : Nat)) = (o : Int) := by omega
          unfold byteG
          rw [e, show p.core.done = p.done from rfl, hdn]
          rfl
        have hal := step_alloc w5 T3 (.cells #[.int .u8 255] 5) (fun _ => False)
        have hRa := r5.step hal (fun h => h)
        have hsr := src_byte (w5.alloc (.cells #[.int .u8 255] 5)) w5.heap.size 255 ((blk_new w5 T3 #[.int .u8 255] 5 .free).cell (j := 0) rfl)
        go_wp2_with (first
          | (at_builtin; refine wpList_append_bytes rfl _ _ 100 rfl _ L3 rfl hRa _ [255] rfl hsr (by simp; omega) ?_; intro v6 w6 T6 r6 hs6)
          | go_in)
        have hB6 := (hB5.step hal (fun h => h)).step hs6 (by simp)
        have hG6 := (hG5.step hal (fun _ _ h => h)).step hs6 (fun r hr => by simp; omega)
        have s6 := (s5.trans (hal.mono (fun _ h => h.elim))).trans hs6
        rw [hnext.out _ hbg] at r6
        have P6 := hide (And.intro s6 (And.intro hB6 (And.intro hG6 r6)))
        clear s6 hB6 hG6 r6 hB5 hG5 r5 s5 hRa hsr hal hs6
        go_wp2
        exact ⟨⟨o + 1, T6, by omega, by omega, by simp, P6.out.1, P6.out.2.1, P6.out.2.2.1, P6.out.2.2.2⟩, by simp [intOf]; omega⟩
    · have eo : o = o0 + m := by omega
      replace hfin : Hid (∀ x : Bs, l ++ (encN 2 p.start.toNat ++ (triesB p.core (fl + n - max fl p.start).toNat (max fl p.start) ++ x)) = L3 ++ x) := hide (fun x => by rw [hfin.out, hlast.out eo])
      obtain ⟨vD, vE, tb, wb, hBg, hD, hE, hT, hW⟩ := id hG4
      have lg4 := hBg.lt
      have d2 := hBg.cell (j := 2) (v := vE) rfl
      obtain ⟨eo, ec, rfl⟩ := row_form hE
      have hp5 := putOne_any i _ L3 p.dead.length w4 T3 r4 (by omega) (by omega)
      rw [Int.toNat_natCast] at hp5
      have hlen5 := encN_length 2 p.dead.length
      obtain ⟨bs5, hbs5⟩ : ∃ bs5, Hid (encN 2 p.dead.length = bs5) := ⟨_, hide rfl⟩
      rw [hbs5.out] at hp5 hlen5
      clear hBg hD hT hW hlast hnext
      go_wp2_with fail
      refine hp5.mono ?_
      clear hp5
      rintro e5 w5 ⟨v5, T5, rfl, s5, r5⟩
      have hG5 := hG4.step s5 (fun r hr => by simp; omega)
      have s05 := s4.trans s5
      have hE5 := hE.step s5 (by simp)
      have d25 : w5.cell? ⟨gb, 2, none⟩ = some (.slice eo p.dead.length ec) := (s5.cell (p := ⟨gb, 2, none⟩) lg4 (by obtain ⟨_, _, _, _, hBg, _⟩ := hG4; rw [hBg.1]; simp)).trans d2
      have lg5 := hG5.lt
      clear hB4 hG4 r4 s4 s5 d2 lg4 hE
      have hL5l : (L3 ++ bs5).length ≤ 1100002 := by simp; omega
      replace hfin : Hid (∀ x : Bs, l ++ (encN 2 p.start.toNat ++ (triesB p.core (fl + n - max fl p.start).toNat (max fl p.start) ++ (encN 2 p.dead.length ++ x))) = L3 ++ bs5 ++ x) := hide (fun x => by rw [hfin.out, hbs5.out, List.append_assoc])
      clear hbs5
      generalize L3 ++ bs5 = L5 at *
      go_wp2_with fail
      go_loopw [1, 55] (fun u1 u55 wr => ∃ (j : Nat) (T' : Nat → Tag), j ≤ p.dead.length ∧ u55 = .int .i64 j ∧ Step (fun s => s = wT i) w T wr T' ∧ Row wr T' (.q i 5 k) 82 3 (.slice eo p.dead.length ec) p.dead.length (dlVals p.dead) ∧ BRow wr T' (wT i) u1 (L5 ++ (p.dead.take j).flatMap deadB)) (fun _ u55 _ => p.dead.length - (intOf u55).toNat)
      case atStart => exact ⟨0, T5, Nat.zero_le _, rfl, s05, hE5, by simpa using r5⟩
      case round =>
        obtain ⟨j, T6, hj, rfl, s6, hE6, r6⟩ := hrel
        clear hG5 r5 s05 hE5 d25 lg5
        by_cases hjl : j < p.dead.length
        · obtain ⟨x, hx⟩ : ∃ x, p.dead[j]? = some x := ⟨_, List.getElem?_eq_getElem hjl⟩
          obtain ⟨⟨hx0, hx1⟩, hx2⟩ := hdd x (List.mem_of_getElem? hx)
          obtain ⟨y0, y1, y2⟩ := dlVals_at p.dead j x hx
          obtain ⟨eb, ec2, e⟩ := row_some hE6 (by omega)
          cases e
          have q0 := hE6.cell y0
          have q1 := hE6.cell y1
          have q2 := hE6.cell y2
          have le := hE6.lt
          have hfl6 : ((p.dead.take j).flatMap deadB).length ≤ 67 * j := Nat.le_trans (flat_len _ (fun y hy => (hdd y (List.mem_of_mem_take hy)).2)) (by rw [List.length_take]; omega)
          have hL6l : (L5 ++ (p.dead.take j).flatMap deadB).length ≤ 1130000 := by rw [List.length_append]; omega
          have hnext : Hid (L5 ++ (p.dead.take j).flatMap deadB ++ encN 2 x.off.toNat ++ textB x.body = L5 ++ (p.dead.take (j + 1)).flatMap deadB) := hide (by rw [flat_take hx]; simp [deadB])
          generalize L5 ++ (p.dead.take j).flatMap deadB = L6 at *
          clear y0 y1 y2
          have sn := step_new wr T6 (.cells #[.int .i64 x.off, .int .i64 x.tr, .string x.body] 82) .free (fun _ => False)
          have hO := blk_new wr T6 #[.int .i64 x.off, .int .i64 x.tr, .string x.body] 82 .free
          have hE7 := hE6.step sn (fun h => h)
          have r7 := r6.step sn (fun h => h)
          have s7 := s6.trans (sn.mono (fun _ h => h.elim))
          obtain ⟨v7, v7c, rfl⟩ := row_form r7
          clear hE6 r6 s6 sn
          go_wp2_with fail
          generalize retag T6 wr.heap.size .free = T7 at *
          generalize wr.alloc (.cells #[.int .i64 x.off, .int .i64 x.tr, .string x.body] 82) = w7 at *
          generalize wr.heap.size = nb at hO ⊢
          have o0' := hO.cell (j := 0) (v := .int .i64 x.off) rfl
          have o2' := hO.cell (j := 2) (v := .string x.body) rfl
          have lO := hO.lt
          have gd := step_below (fun _ => False) T7 (Below.refl w7.heap.size w7).drew
          have hOd := hO.step gd (fun h => h)
          have rd := r7.step gd (fun h => h)
          have hp8 := putOne_any i _ L6 x.off w7.drew T7 rd (by omega) (by omega)
          have hpt := fun (v8 : Value) (w8 : World) (T8 : Nat → Tag) (h : BRow w8 T8 (wT i) v8 (L6 ++ encN 2 x.off.toNat)) => putText_any (wT i) v8 _ x.body w8 T8 h (by omega) (by rw [List.length_append, encN_length]; omega)
          go_region_held3 (fun w' => w'.cell? ⟨nb, 0, none⟩ = some (.int .i64 x.off) ∧ w'.cell? ⟨nb, 2, none⟩ = some (.string x.body)) (go_keep) (first
            | (go_at_call 94; refine hp8.mono ?_; clear hp8; rintro e8 w8 ⟨v8, T8, rfl, s8, r8⟩; have hO8 := hOd.step s8 (by simp); have k0 := hO8.cell (j := 0) (v := .int .i64 x.off) rfl; have k2 := hO8.cell (j := 2) (v := .string x.body) rfl; have kl := hO8.lt)
            | (go_at_call 99; refine (hpt _ _ _ r8).mono ?_; clear hpt; rintro e9 w9 ⟨v9, T9, rfl, s9, r9⟩; have hO9 := hO8.step s9 (by simp); have m0 := hO9.cell (j := 0) (v := .int .i64 x.off) rfl; have m2 := hO9.cell (j := 2) (v := .string x.body) rfl; have ml := hO9.lt))
          all_goals
            have s09 := (s7.trans (gd.mono (fun _ h => (h.elim : _ = wT i)))).trans (s8.trans s9)
            have hE9 := ((hE7.step gd (fun h => h)).step s8 (by simp)).step s9 (by simp)
            rw [hnext.out] at r9
            have P9 := hide (And.intro s09 (And.intro hE9 r9))
            clear s09 hE9 r9 s8 s9 r8 hO8 hO9 s7 hE7 r7 hO hOd rd gd
            go_wp2
            exact ⟨⟨j + 1, T9, by omega, by simp, P9.out.1, P9.out.2.1, P9.out.2.2⟩, by simp [intOf]; omega⟩
        · have ej : j = p.dead.length := by omega
          subst ej
          rw [List.take_length] at r6
          rw [← hfin.out] at r6
          obtain ⟨v6, v6c, rfl⟩ := row_form r6
          go_wp2
          go_ret
          exact ⟨_, T6, rfl, s6, r6⟩

end Go.Proofs.YtockkceclkcgbaaGreatDoor

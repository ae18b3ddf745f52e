/- Contracts for the walk of Book.added: Add and quayref.Add at whatever list, and keepRanges at a list that came out of them. -/
import Derived.Test.YtockkceclkcgbaaB4
namespace Go.Proofs.Ytockkceclkcgbaa
open Go.RowKit

/-- What Add answers: the list, and the error. -/
def resL (rs : RL) (a b : Int) : RL := bif setB rs && isR a b then addTo rs a b else []
theorem resL_yes {rs : RL} {a b : Int} (h : (setB rs && isR a b) = true) : resL rs a b = addTo rs a b := by rw [resL, h]; rfl
theorem resL_no {rs : RL} {a b : Int} (h : (setB rs && isR a b) = false) : resL rs a b = [] := by rw [resL, h]; rfl

/-- The block in which a list lies. -/
def blk (xo : Option Addr) (b : Nat) : Prop := ∃ o, xo = some ⟨b, o, none⟩

/-- A list in memory of its own, from block B on: nil, or at the head of a row. -/
def OwnL (w : World) (B : Nat) (M : RL) (xo : Option Addr) (c : Nat) : Prop :=
  (xo = none ∧ M = [] ∧ c = 0) ∨ ∃ g, xo = some ⟨g, 0, none⟩ ∧ w.ownsRow B 31 2 (.slice (some ⟨g, 0, none⟩) M.length c) M.length (flat M)

theorem OwnL.arg {w : World} {B : Nat} {M : RL} {xo : Option Addr} {c : Nat} (h : OwnL w B M xo c) : ArgL w xo M := by
  rcases h with ⟨rfl, rfl, rfl⟩ | ⟨g, rfl, h⟩
  · intro k hk; simp at hk
  · exact argL_cells (cells_of_own h)
theorem OwnL.kept {S : Nat → Prop} {w w' : World} {B : Nat} {M : RL} {xo : Option Addr} {c : Nat} (h : OwnL w B M xo c) (hk : Kept S w w') (hS : ∀ b, blk xo b → ¬ S b) : OwnL w' B M xo c := by
  rcases h with h | ⟨g, rfl, h⟩
  · exact .inl h
  · refine .inr ⟨g, rfl, ?_⟩
    have hg := (h.lt g rfl).2
    obtain ⟨h1, h2⟩ := h
    refine ⟨h1, ?_⟩
    rcases h2 with ⟨e, _⟩ | ⟨g', cap, cur, e, hb, hh, hr⟩
    · cases e
    · have eg : g' = g := by cases e; rfl
      subst eg
      exact .inr ⟨g', cap, cur, e, hb, by rw [hk.block g' hg (hS g' ⟨0, rfl⟩)]; exact hh, hr⟩
theorem OwnL.blk {w : World} {B : Nat} {M : RL} {xo : Option Addr} {c : Nat} (h : OwnL w B M xo c) {b : Nat} (hb : blk xo b) : B ≤ b ∧ b < w.heap.size := by
  rcases h with ⟨rfl, _, _⟩ | ⟨g, rfl, h⟩
  · obtain ⟨o, e⟩ := hb; cases e
  · obtain ⟨o, e⟩ := hb; cases e; exact h.lt _ rfl
theorem ArgL.kept {S : Nat → Prop} {w w' : World} {ao : Option Addr} {ls : RL} (h : ArgL w ao ls) (hk : Kept S w w') (hS : ∀ b, 0 < ls.length → blk ao b → ¬ S b) : ArgL w' ao ls := fun k hlt => by
  obtain ⟨b, off, e, hb, h0, h1⟩ := h k hlt
  have hn := hS b (by omega) ⟨off, e⟩
  exact ⟨b, off, e, Nat.lt_of_lt_of_le hb hk.size, (hk.cell (p := ⟨b, off + k * 2, none⟩) hb hn).trans h0, (hk.cell (p := ⟨b, off + k * 2 + 1, none⟩) hb hn).trans h1⟩

theorem add_both (rs : RL) (a b : Int) (bl off cap : Nat) (w : World) (hc : Cells w bl off rs) (hlen : rs.length ≤ 549755813889) (hcap : rs.length ≤ cap) :
    Calls Try.prog 14 #[.slice (some ⟨bl, off, none⟩) rs.length cap, .agg #[.int .i64 a, .int .i64 b]] w fun e w' => ∃ xo c,
      e = .returned (.tuple #[.slice xo (resL rs a b).length c, .int .i64 (eno (setB rs && isR a b))]) ∧ OwnL w' w.heap.size (resL rs a b) xo c ∧ Below w.heap.size w w' := by
  cases h : setB rs && isR a b
  · rw [resL_no h]
    refine (add_no rs a b bl off cap w hc (by omega) h).mono ?_
    rintro e w' ⟨rfl, hb⟩
    exact ⟨none, 0, rfl, .inl ⟨rfl, rfl, rfl⟩, hb⟩
  · rw [resL_yes h]
    have h2 := h
    rw [Bool.and_eq_true] at h2
    refine (add_yes rs a b bl off cap w hc (by omega) hcap h2.1 h2.2).mono ?_
    rintro e w' ⟨g, rfl, hown, hb⟩
    exact ⟨_, _, rfl, .inr ⟨g, rfl, hown⟩, hb⟩

theorem rAdd_both (rs : RL) (a b : Int) (ao : Option Addr) (cap : Nat) (w : World) (hl : ArgL w ao rs) (hlen : rs.length ≤ 549755813889) :
    Calls Try.prog 7 #[.slice ao rs.length cap, .agg #[.int .i64 a, .int .i64 b]] w fun e w' => ∃ xo c,
      e = .returned (.tuple #[.slice xo (resL rs a b).length c, .int .i64 (eno (setB rs && isR a b))]) ∧ OwnL w' w.heap.size (resL rs a b) xo c ∧ Below w.heap.size w w' := by
  cases h : setB rs && isR a b
  · rw [resL_no h]
    refine (rAdd_no rs a b ao cap w hl (by omega) h).mono ?_
    rintro e w' ⟨rfl, hb⟩
    exact ⟨none, 0, rfl, .inl ⟨rfl, rfl, rfl⟩, hb⟩
  · rw [resL_yes h]
    have h2 := h
    rw [Bool.and_eq_true] at h2
    refine (rAdd_yes rs a b ao cap w hl h2.1 h2.2).mono ?_
    rintro e w' ⟨g, c, rfl, hown, hb⟩
    exact ⟨_, _, rfl, .inr ⟨g, rfl, hown⟩, hb⟩

theorem resL_len (rs : RL) (a b : Int) : (resL rs a b).length ≤ 549755813889 := by
  cases h : setB rs && isR a b
  · rw [resL_no h]; simp
  · rw [resL_yes h]
    rw [Bool.and_eq_true] at h
    exact setB_len (addTo_setB h.1 h.2)

theorem keep_own (w : World) (bk q B : Nat) (K : Nat → Prop) (ro : Option Addr) (rc : Nat) (vs : List Value) (xo : Option Addr) (M : RL) (c : Nat)
    (hB : BookI w bk K (4 * q) ro rc vs) (hx : OwnL w B M xo c) (hK : ∀ b, blk xo b → ¬ K b) (hM : M.length ≤ 549755813889) (hq : q ≤ 1000000000) :
    Calls Try.prog 17 #[.pointer (some ⟨bk, 0, none⟩), .slice xo M.length c] w fun e w' => e = .returned (.tuple #[]) ∧
      ∃ K' ro' rc' vs', BookI w' bk K' (4 * (q + 1)) ro' rc' vs' ∧ (∀ b, K' b → K b ∨ blk xo b ∨ w.heap.size ≤ b) ∧ Kept (fun b => K b ∨ blk xo b) w w' := by
  rcases hx with ⟨rfl, rfl, rfl⟩ | ⟨g, rfl, hown⟩
  · refine (keep_any w bk w.heap.size q K ro rc vs none 0 0 hB (fun h => by have := hB.klt _ h; omega) (.inr rfl) (.inl ⟨rfl, rfl, rfl⟩) (Nat.le_refl _) (by omega) hq (fun _ => rfl) (Nat.le_refl _)).mono ?_
    rintro e w' ⟨rfl, K', ro', rc', vs', h1, h2, h3⟩
    refine ⟨rfl, K', ro', rc', vs', h1, fun b hb => ?_, h3.mono fun i hi x => ?_⟩
    · rcases h2 b hb with h | ⟨_, h⟩ | h
      · exact .inl h
      · omega
      · exact .inr (.inr h)
    · rcases x with x | x
      · exact .inl x
      · omega
  · have hg := (hown.lt g rfl).2
    have hls : Ls w 31 2 g (mkc q) (some ⟨g, 0, none⟩) 0 c ∧ M.length ≤ c := by
      rcases hown.2 with ⟨e, _⟩ | ⟨g', cap, cur, e, _, hh, hr1, hr2, hr3, _⟩
      · cases e
      · cases e
        exact ⟨.inr ⟨rfl, Nat.zero_le _, hr2, fun j hj => by omega, cur, hh, hr3⟩, hr1⟩
    refine (keep_any w bk g q K ro rc vs (some ⟨g, 0, none⟩) M.length c hB (hK g ⟨0, rfl⟩) (.inl hg) hls.1 hls.2 (by omega) hq (fun e => by cases e) (by omega)).mono ?_
    rintro e w' ⟨rfl, K', ro', rc', vs', h1, h2, h3⟩
    refine ⟨rfl, K', ro', rc', vs', h1, fun b hb => ?_, h3.mono fun i hi x => ?_⟩
    · rcases h2 b hb with h | ⟨rfl, _⟩ | h
      · exact .inl h
      · exact .inr (.inl ⟨0, rfl⟩)
      · exact .inr (.inr h)
    · rcases x with x | rfl
      · exact .inl x
      · exact .inr ⟨0, rfl⟩

/-- What stands in memory while Book.added works: the book, the range r in its box, the list that was handed in, the row that is lent. -/
structure AS (w wx : World) (bk N : Nat) (K K' : Nat → Prop) (ro : Option Addr) (rc : Nat) (vs : List Value) (L : RL) (ao : Option Addr) (go : Nat) (a b : Int) (Mo : RL) : Prop where
  book : BookI wx bk K' N ro rc vs
  newK : ∀ b, K' b → K b ∨ w.heap.size ≤ b
  kept : Kept K w wx
  box : wx.heap[w.heap.size]? = some (.cells #[.int .i64 a, .int .i64 b] 31 (0, 0))
  rbK : ¬ K' w.heap.size
  rbl : w.heap.size < wx.heap.size
  goK : ¬ K' go
  gol : w.heap.size < go
  got : go < wx.heap.size
  set : ArgL wx ao L
  setl : ∀ b, 0 < L.length → blk ao b → b < w.heap.size
  setK : ∀ b, 0 < L.length → blk ao b → ¬ K' b
  row : RowIs wx (w.heap.size + 1) go Mo

theorem rowIs_kept {S : Nat → Prop} {w w' : World} {B g : Nat} {M : RL} (h : RowIs w B g M) (hk : Kept S w w') (hS : ¬ S g) : RowIs w' B g M := by
  obtain ⟨h1, h2, h3⟩ := h.block
  have hlt : g < w.heap.size := (Array.getElem?_eq_some_iff.1 h1).1
  exact rowIs_of (by rw [hk.block g hlt hS]; exact h1) h2 h3

theorem AS.step {S : Nat → Prop} {w wx wy : World} {bk N N' : Nat} {K K' K'' : Nat → Prop} {ro ro' : Option Addr} {rc rc' : Nat} {vs vs' : List Value} {L : RL} {ao : Option Addr} {go : Nat} {a b : Int} {Mo : RL}
    (h : AS w wx bk N K K' ro rc vs L ao go a b Mo) (hk : Kept S wx wy) (hB : BookI wy bk K'' N' ro' rc' vs') (hK : ∀ i, K'' i → K' i ∨ (w.heap.size + 1 ≤ i ∧ i ≠ go))
    (hS : ∀ i, S i → K' i ∨ (w.heap.size + 1 ≤ i ∧ i ≠ go)) : AS w wy bk N' K K'' ro' rc' vs' L ao go a b Mo := by
  have hno : ∀ i, (K' i ∨ (w.heap.size + 1 ≤ i ∧ i ≠ go)) → ¬ K' i → i ≠ go ∧ w.heap.size + 1 ≤ i := fun i hi hn => by
    rcases hi with hi | hi
    · exact absurd hi hn
    · exact ⟨hi.2, hi.1⟩
  have nS : ∀ i, i ≤ w.heap.size → ¬ K' i → ¬ S i := fun i hi hn hs => by have := hno i (hS i hs) hn; omega
  refine ⟨hB, fun i hi => ?_, h.kept.trans hk (fun i hi hs => ?_), ?_, fun hx => ?_, Nat.lt_of_lt_of_le h.rbl hk.size, fun hx => (hno go (hK go hx) h.goK).1 rfl, h.gol, Nat.lt_of_lt_of_le h.got hk.size,
    h.set.kept hk (fun i h0 hi => ?_), h.setl, fun i h0 hi hx => ?_, rowIs_kept h.row hk (fun hs => (hno go (hS go hs) h.goK).1 rfl)⟩
  · rcases hK i hi with hi | hi
    · exact h.newK i hi
    · right; omega
  · rcases hS i hs with hx | hx
    · rcases h.newK i hx with hx | hx
      · exact hx
      · omega
    · omega
  · rw [hk.block _ h.rbl (nS _ (Nat.le_refl _) h.rbK)]; exact h.box
  · have := hno _ (hK _ hx) h.rbK; omega
  · exact nS i (by have := h.setl i h0 hi; omega) (h.setK i h0 hi)
  · have h1 := hno i (hK i hx) (h.setK i h0 hi)
    have h2 := h.setl i h0 hi
    omega

theorem AS.on {w wx wy : World} {bk N : Nat} {K K' : Nat → Prop} {ro : Option Addr} {rc : Nat} {vs : List Value} {L : RL} {ao : Option Addr} {go : Nat} {a b : Int} {Mo : RL}
    (h : AS w wx bk N K K' ro rc vs L ao go a b Mo) (hb : Below wx.heap.size wx wy) : AS w wy bk N K K' ro rc vs L ao go a b Mo :=
  h.step (kept_of_below (fun _ => False) hb) (h.book.on hb) (fun _ x => .inl x) (fun _ x => x.elim)

theorem AS.r0 {w wx : World} {bk N : Nat} {K K' : Nat → Prop} {ro : Option Addr} {rc : Nat} {vs : List Value} {L : RL} {ao : Option Addr} {go : Nat} {a b : Int} {Mo : RL} (h : AS w wx bk N K K' ro rc vs L ao go a b Mo) :
    wx.cell? ⟨w.heap.size, 0, none⟩ = some (.int .i64 a) := by simp [World.cell?, h.box]
theorem AS.r1 {w wx : World} {bk N : Nat} {K K' : Nat → Prop} {ro : Option Addr} {rc : Nat} {vs : List Value} {L : RL} {ao : Option Addr} {go : Nat} {a b : Int} {Mo : RL} (h : AS w wx bk N K K' ro rc vs L ao go a b Mo) :
    wx.cell? ⟨w.heap.size, 1, none⟩ = some (.int .i64 b) := by simp [World.cell?, h.box]
theorem AS.cellsOf {w wx : World} {bk N : Nat} {K K' : Nat → Prop} {ro : Option Addr} {rc : Nat} {vs : List Value} {L M : RL} {ao : Option Addr} {go : Nat} {a b : Int} (h : AS w wx bk N K K' ro rc vs L ao go a b (marks M)) : Cells wx go 0 M := by
  have hcs := h.row.cells
  exact ⟨hcs.1, fun i hi => by
    have := hcs.2 i (by rw [marks_length]; omega)
    rw [lo_marks M i hi, hi_marks M i hi] at this; exact this⟩

end Go.Proofs.Ytockkceclkcgbaa

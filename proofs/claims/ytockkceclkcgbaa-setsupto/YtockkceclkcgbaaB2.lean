/- The caller's book of lists: what it holds, that it stays whole while other memory is written, and the contract of Book.keepRanges. -/
import Derived.Test.YtockkceclkcgbaaB1
import Derived.Test.YtockkceclkcgbaaR5
namespace Go.Proofs.Ytockkceclkcgbaa
open Go.RowKit

attribute [local go_sem] over_cell

/-- Cell j of a list that is written full with the mark of number q. -/
def mkc (q j : Nat) : Value := if j % 2 = 0 then .int .i64 (-1000 - q) else .int .i64 7
theorem mkc_even (q k : Nat) : mkc q (k * 2) = .int .i64 (-1000 - q) := by simp [mkc]
theorem mkc_odd (q k : Nat) : mkc q (k * 2 + 1) = .int .i64 7 := by simp [mkc]
theorem mkc_shift (q n j : Nat) : mkc q (n * 2 + j) = mkc q j := by simp [mkc]
theorem mkc_flat (q m : Nat) : ∀ j u, (flat (List.replicate m (-1000 - (q : Int), 7)))[j]? = some u → u = mkc q j := by
  intro j u hu
  have hj : j < m * 2 := by
    have := (List.getElem?_eq_some_iff.1 hu).1
    simpa [flat_length] using this
  have hq : j / 2 < m := by omega
  have hf := flat_get (List.replicate m (-1000 - (q : Int), 7)) (j / 2) (by simpa using hq)
  have hlo : lo (List.replicate m (-1000 - (q : Int), 7)) (j / 2) = -1000 - q := by simp [lo, List.getD, hq]
  have hhi : hi (List.replicate m (-1000 - (q : Int), 7)) (j / 2) = 7 := by simp [hi, List.getD, hq]
  rw [hlo, hhi] at hf
  rcases Nat.mod_two_eq_zero_or_one j with h | h
  · have e : j / 2 * 2 = j := by omega
    rw [e, hu] at hf
    rw [Option.some.inj hf.1]; simp [mkc, h]
  · have e : j / 2 * 2 + 1 = j := by omega
    rw [e, hu] at hf
    rw [Option.some.inj hf.2]; simp [mkc, h]

/-- A list whose cells all bear the mark of number q; where it lies. -/
def MarkV (w : World) (K : Nat → Prop) (v : Value) (q : Nat) : Prop :=
  ∃ ao n cap, v = .slice ao n cap ∧ n ≤ 1099511627776 ∧ (n = 0 ∨ ∃ b, ao = some ⟨b, 0, none⟩ ∧ K b ∧ b < w.heap.size ∧ Pat w b (mkc q) (n * 2))

theorem MarkV.kept {S K K' : Nat → Prop} {w w' : World} {v : Value} {q : Nat} (h : MarkV w K v q) (hk : Kept S w w') (hS : ∀ b, K b → ¬ S b) (hK : ∀ b, b < w.heap.size → K b → K' b) : MarkV w' K' v q := by
  obtain ⟨ao, n, cap, e, hn, h | ⟨b, hb, hK1, hlt, hp⟩⟩ := h
  · exact ⟨ao, n, cap, e, hn, .inl h⟩
  · exact ⟨ao, n, cap, e, hn, .inr ⟨b, hb, hK b hlt hK1, Nat.lt_of_lt_of_le hlt hk.size, hp.kept hk hlt (hS b hK1)⟩⟩

structure BookI (w : World) (bk : Nat) (K : Nat → Prop) (N : Nat) (ro : Option Addr) (rc : Nat) (vs : List Value) : Prop where
  box : w.heap[bk]? = some (.cells #[.slice ro N rc, .slice none 0 0] 28 (0, 0))
  own : w.ownsRow 0 22 1 (.slice ro N rc) N vs
  kbk : K bk
  row : ∀ g, Value.ownBlock (.slice ro N rc) = some g → K g ∧ g ≠ bk
  klt : ∀ b, K b → b < w.heap.size
  lists : ∀ i v, vs[i]? = some v → MarkV w (fun b => K b ∧ b ≠ bk ∧ Value.ownBlock (.slice ro N rc) ≠ some b) v (i / 4)

theorem BookI.kept {S : Nat → Prop} {w w' : World} {bk : Nat} {K : Nat → Prop} {N : Nat} {ro : Option Addr} {rc : Nat} {vs : List Value} (h : BookI w bk K N ro rc vs) (hk : Kept S w w') (hS : ∀ b, K b → ¬ S b) : BookI w' bk K N ro rc vs := by
  refine ⟨?_, ?_, h.kbk, h.row, fun b hb => Nat.lt_of_lt_of_le (h.klt b hb) hk.size, fun i v hv => (h.lists i v hv).kept hk (fun b hb => hS b hb.1) (fun _ _ x => x)⟩
  · rw [hk.block bk (h.klt bk h.kbk) (hS bk h.kbk)]; exact h.box
  · obtain ⟨h1, h2⟩ := h.own
    refine ⟨h1, ?_⟩
    rcases h2 with h2 | ⟨g, cap, cur, e, hb, hg, hr⟩
    · exact .inl h2
    · have hK := (h.row g (by rw [e]; rfl)).1
      exact .inr ⟨g, cap, cur, e, hb, by rw [hk.block g (h.klt g hK) (hS g hK)]; exact hg, hr⟩

theorem BookI.on {w w' : World} {bk : Nat} {K : Nat → Prop} {N : Nat} {ro : Option Addr} {rc : Nat} {vs : List Value} (h : BookI w bk K N ro rc vs) (hb : Below w.heap.size w w') : BookI w' bk K N ro rc vs :=
  h.kept (kept_of_below (fun _ => False) hb) (fun _ _ x => x)

theorem BookI.cell0 {w : World} {bk : Nat} {K : Nat → Prop} {N : Nat} {ro : Option Addr} {rc : Nat} {vs : List Value} (h : BookI w bk K N ro rc vs) : w.cell? ⟨bk, 0, none⟩ = some (.slice ro N rc) := by simp [World.cell?, h.box]
theorem BookI.cell1 {w : World} {bk : Nat} {K : Nat → Prop} {N : Nat} {ro : Option Addr} {rc : Nat} {vs : List Value} (h : BookI w bk K N ro rc vs) : w.cell? ⟨bk, 1, none⟩ = some (.slice none 0 0) := by simp [World.cell?, h.box]
theorem BookI.free {w : World} {bk : Nat} {K : Nat → Prop} {N : Nat} {ro : Option Addr} {rc : Nat} {vs : List Value} (h : BookI w bk K N ro rc vs) (o : Nat) : w.frozen? ⟨bk, o, none⟩ = false := by simp [World.frozen?, h.box]

/-- What the book is when four lists more have come in. -/
theorem keep_end {w w6 w7 w8 : World} {bk g g8 c8 q : Nat} {K : Nat → Prop} {ro : Option Addr} {rc : Nat} {vs : List Value} {l1 l2 l3 l4 : Value} {o : Obj}
    (hB : BookI w bk K (4 * q) ro rc vs) (hgK : ¬ K g) (hk6 : Kept (fun b => b = g) w w6)
    (m1 : MarkV w6 (fun b => b = g ∨ w.heap.size ≤ b) l1 q) (m2 : MarkV w6 (fun b => b = g ∨ w.heap.size ≤ b) l2 q) (m3 : MarkV w6 (fun b => b = g ∨ w.heap.size ≤ b) l3 q) (m4 : MarkV w6 (fun b => b = g ∨ w.heap.size ≤ b) l4 q)
    (h7 : w7 = w6.alloc o) (hown : w8.ownsRow 0 22 1 (.slice (some ⟨g8, 0, none⟩) (4 * q + 4) c8) (4 * q + 4) (vs ++ [l1, l2, l3, l4]))
    (hgrow : w7.grownBy w8 (Value.ownBlock (.slice ro (4 * q) rc))) (hat : Value.ownBlock (.slice ro (4 * q) rc) = some g8 ∨ g8 = w7.heap.size) (hlt : g8 < w8.heap.size) :
    BookI (w8.setCell ⟨bk, 0, none⟩ (.slice (some ⟨g8, 0, none⟩) (4 * q + 4) c8)) bk (fun b => K b ∨ (b = g ∧ g < w.heap.size) ∨ (w.heap.size ≤ b ∧ b < w8.heap.size)) (4 * q + 4) (some ⟨g8, 0, none⟩) c8 (vs ++ [l1, l2, l3, l4]) ∧
    Kept (fun b => K b ∨ b = g) w (w8.setCell ⟨bk, 0, none⟩ (.slice (some ⟨g8, 0, none⟩) (4 * q + 4) c8)) := by
  have hkb := hB.klt bk hB.kbk
  have k7 : Kept (fun _ => False) w6 w7 := by rw [h7]; exact kept_of_below _ ((Below.refl _ _).alloc (Nat.le_refl _) _)
  have s7 : w7.heap.size = w6.heap.size + 1 := by rw [h7]; simp
  have k8 := kept_of_grown hgrow
  have k9 := kept_setCell w8 ⟨bk, 0, none⟩ (.slice (some ⟨g8, 0, none⟩) (4 * q + 4) c8)
  have hbg : bk ≠ g := fun e => hgK (e ▸ hB.kbk)
  have hrow : ∀ b, some b = Value.ownBlock (.slice ro (4 * q) rc) → K b ∧ b ≠ bk := fun b e => hB.row b e.symm
  have s6 := hk6.size
  -- the row of the book's lists
  have hg8 : (K g8 ∧ g8 ≠ bk) ∨ w6.heap.size < g8 := by
    rcases hat with h | h
    · exact .inl (hB.row g8 h)
    · right; omega
  have hg8b : g8 ≠ bk := by
    rcases hg8 with h | h
    · exact h.2
    · omega
  have hsz9 : (w8.setCell ⟨bk, 0, none⟩ (.slice (some ⟨g8, 0, none⟩) (4 * q + 4) c8)).heap.size = w8.heap.size := by simp [World.setCell]
  have k69 : Kept (fun b => some b = Value.ownBlock (.slice ro (4 * q) rc) ∨ b = bk) w6 (w8.setCell ⟨bk, 0, none⟩ (.slice (some ⟨g8, 0, none⟩) (4 * q + 4) c8)) :=
    ((k7.mono (T := fun b => some b = Value.ownBlock (.slice ro (4 * q) rc) ∨ b = bk) (fun _ _ x => x.elim)).trans k8 (fun _ _ x => .inl x)).trans k9 (fun _ _ x => .inr x)
  have hkept : Kept (fun b => K b ∨ b = g) w (w8.setCell ⟨bk, 0, none⟩ (.slice (some ⟨g8, 0, none⟩) (4 * q + 4) c8)) :=
    (hk6.mono (T := fun b => K b ∨ b = g) (fun _ _ x => .inr x)).trans k69 (fun i _ x => by
      rcases x with x | x
      · exact .inl (hrow i x).1
      · exact .inl (x ▸ hB.kbk))
  refine ⟨⟨?_, ?_, .inl hB.kbk, ?_, ?_, ?_⟩, hkept⟩
  · -- the box
    have hb6 : w6.heap[bk]? = some (.cells #[.slice ro (4 * q) rc, .slice none 0 0] 28 (0, 0)) := by rw [hk6.block bk hkb hbg]; exact hB.box
    have hb7 : w7.heap[bk]? = some (.cells #[.slice ro (4 * q) rc, .slice none 0 0] 28 (0, 0)) := by rw [k7.block bk (by omega) (fun x => x)]; exact hb6
    have hb8 : w8.heap[bk]? = some (.cells #[.slice ro (4 * q) rc, .slice none 0 0] 28 (0, 0)) := by rw [k8.block bk (by omega) (fun e => (hrow bk e).2 rfl)]; exact hb7
    simp [World.setCell, Array.getElem?_modify, hb8]
  · -- the row
    obtain ⟨h1, h2⟩ := hown
    refine ⟨h1, ?_⟩
    rcases h2 with ⟨e, _⟩ | ⟨g', cap, cur, e, hb, hg, hr⟩
    · cases e
    · have eg : g' = g8 := by cases e; rfl
      subst eg
      exact .inr ⟨g', cap, cur, e, hb, by rw [k9.block g' (by omega) hg8b]; exact hg, hr⟩
  · intro b e
    have eg : b = g8 := by simpa [Value.ownBlock] using e.symm
    subst eg
    refine ⟨?_, hg8b⟩
    rcases hg8 with h | h
    · exact .inl h.1
    · exact .inr (.inr ⟨by omega, hlt⟩)
  · intro b hb
    rw [hsz9]
    have := k7.size
    have := k8.size
    rcases hb with hb | ⟨rfl, hb⟩ | ⟨_, hb⟩
    · have := hB.klt b hb; omega
    · omega
    · exact hb
  · intro i v hv
    have hl := hB.own.1
    have s7' := k7.size
    have s8' := k8.size
    have hne8 : ∀ b, b < w6.heap.size → ¬ (K b ∧ Value.ownBlock (.slice ro (4 * q) rc) = some b) → b ≠ g8 := by
      intro b hb hno e
      subst e
      rcases hat with h | h
      · exact hno ⟨(hB.row b h).1, h⟩
      · omega
    by_cases hi : i < 4 * q
    · rw [List.getElem?_append_left (by omega)] at hv
      have kf : Kept (fun b => b = g ∨ (some b = Value.ownBlock (.slice ro (4 * q) rc) ∨ b = bk)) w (w8.setCell ⟨bk, 0, none⟩ (.slice (some ⟨g8, 0, none⟩) (4 * q + 4) c8)) :=
        (hk6.mono (T := fun b => b = g ∨ (some b = Value.ownBlock (.slice ro (4 * q) rc) ∨ b = bk)) (fun _ _ x => .inl x)).trans k69 (fun _ _ x => .inr x)
      refine (hB.lists i v hv).kept kf (fun b hb x => ?_) (fun b hlt hb => ⟨.inl hb.1, hb.2.1, fun e => ?_⟩)
      · rcases x with rfl | x | x
        · exact hgK hb.1
        · exact hb.2.2 x.symm
        · exact hb.2.1 x
      · have eg : b = g8 := by simpa [Value.ownBlock] using e.symm
        exact hne8 b (by omega) (fun x => hb.2.2 x.2) eg
    · rw [List.getElem?_append_right (by omega)] at hv
      have hi4 : i - vs.length < 4 := by
        have := (List.getElem?_eq_some_iff.1 hv).1
        simpa using this
      have hq : i / 4 = q := by omega
      rw [hq]
      have fin : ∀ u, MarkV w6 (fun b => b = g ∨ w.heap.size ≤ b) u q → MarkV (w8.setCell ⟨bk, 0, none⟩ (.slice (some ⟨g8, 0, none⟩) (4 * q + 4) c8)) (fun b => (K b ∨ (b = g ∧ g < w.heap.size) ∨ (w.heap.size ≤ b ∧ b < w8.heap.size)) ∧ b ≠ bk ∧ Value.ownBlock (.slice (some ⟨g8, 0, none⟩) (4 * q + 4) c8) ≠ some b) u q := by
        intro u hu
        refine hu.kept k69 (fun b hb x => ?_) (fun b hlt hb => ⟨?_, ?_, fun e => ?_⟩)
        · rcases x with x | rfl
          · have h2 := hrow b x
            rcases hb with rfl | hb
            · exact hgK h2.1
            · have := hB.klt b h2.1; omega
          · rcases hb with hb | hb
            · exact hbg hb
            · omega
        · rcases hb with rfl | hb
          · rcases Nat.lt_or_ge b w.heap.size with h | h
            · exact .inr (.inl ⟨rfl, h⟩)
            · exact .inr (.inr ⟨h, by omega⟩)
          · exact .inr (.inr ⟨hb, by omega⟩)
        · rintro rfl
          rcases hb with hb | hb
          · exact hbg hb
          · omega
        · have eg : b = g8 := by simpa [Value.ownBlock] using e.symm
          refine hne8 b hlt (fun x => ?_) eg
          rcases hb with rfl | hb
          · exact hgK x.1
          · have := hB.klt b x.1; omega
      generalize i - vs.length = t at *
      match t, hi4, hv with
      | 0, _, hv => simp at hv; subst hv; exact fin _ m1
      | 1, _, hv => simp at hv; subst hv; exact fin _ m2
      | 2, _, hv => simp at hv; subst hv; exact fin _ m3
      | 3, _, hv => simp at hv; subst hv; exact fin _ m4

end Go.Proofs.Ytockkceclkcgbaa

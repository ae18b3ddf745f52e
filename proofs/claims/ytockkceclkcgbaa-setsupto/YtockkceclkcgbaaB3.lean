/- The contract of Book.keepRanges: the list that came out is written full, and stands in the book with three longer ones. -/
import Derived.Test.YtockkceclkcgbaaB2
namespace Go.Proofs.Ytockkceclkcgbaa
open Go.RowKit

attribute [local go_sem] over_cell

theorem Try.info22 : (Try.prog.info? 22).map (fun i => (i.zero, i.size, i.bytes)) = some (some (.slice none 0 0), 1, 24) := by kernel_rfl

theorem Ls.lt {w : World} {e : TypeId} {size g : Nat} {pat : Nat → Value} {ao : Option Addr} {k cap : Nat} (h : Ls w e size g pat ao k cap) (hne : ao ≠ none) : g < w.heap.size ∧ ao = some ⟨g, 0, none⟩ := by
  rcases h with ⟨e, _⟩ | ⟨e, _, _, _, cur, hg, _⟩
  · exact absurd e hne
  · exact ⟨(Array.getElem?_eq_some_iff.1 hg).1, e⟩

theorem Ls.mark {w : World} {g q : Nat} {ao : Option Addr} {k cap : Nat} (h : Ls w 31 2 g (mkc q) ao k cap) (hne : ao ≠ none) (hk : k < cap) :
    Ls ((w.setCell ⟨g, k * 2, none⟩ (.int .i64 (-1000 - q))).setCell ⟨g, k * 2 + 1, none⟩ (.int .i64 7)) 31 2 g (mkc q) ao (k + 1) cap := by
  rcases h with ⟨e, _⟩ | ⟨e, h2, h3, hp, cur, hg, hs⟩
  · exact absurd e hne
  · have hh : ((w.setCell ⟨g, k * 2, none⟩ (.int .i64 (-1000 - q))).setCell ⟨g, k * 2 + 1, none⟩ (.int .i64 7)).heap[g]? = some (.cells ((cur.setIfInBounds (k * 2) (.int .i64 (-1000 - q))).setIfInBounds (k * 2 + 1) (.int .i64 7)) 31 (0, 0)) := by
      simp [World.setCell, Array.getElem?_modify, hg]
    refine .inr ⟨e, by omega, h3, fun j hj => ?_, _, hh, by simpa using hs⟩
    simp only [World.cell?, hh]
    have hp' : ∀ j, j < k * 2 → cur[j]? = some (mkc q j) := fun j hj => by have := hp j hj; simpa [World.cell?, hg] using this
    simp only [Option.isSome_none, Bool.false_eq_true, if_false]
    by_cases h0 : j = k * 2 + 1
    · subst h0
      rw [Array.getElem?_setIfInBounds_self_of_lt (by simp; omega), mkc_odd]
    · rw [Array.getElem?_setIfInBounds_ne (fun x => h0 x.symm)]
      by_cases h1 : j = k * 2
      · subst h1
        rw [Array.getElem?_setIfInBounds_self_of_lt (by omega), mkc_even]
      · rw [Array.getElem?_setIfInBounds_ne (fun x => h1 x.symm)]
        exact hp' j (by omega)

theorem Ls.cells {w : World} {g q : Nat} {ao : Option Addr} {k cap : Nat} (h : Ls w 31 2 g (mkc q) ao k cap) (hne : ao ≠ none) (j : Nat) (hj : j < cap * 2) : (∃ u, w.cell? ⟨g, j, none⟩ = some u) ∧ w.frozen? ⟨g, j, none⟩ = false := by
  rcases h with ⟨e, _⟩ | ⟨e, h2, h3, hp, cur, hg, hs⟩
  · exact absurd e hne
  · refine ⟨⟨cur[j]'(by omega), ?_⟩, by simp [World.frozen?, hg]⟩
    simp [World.cell?, hg, show j < cur.size by omega]

/-- What stands in memory while keepRanges works. -/
structure KS (w wx : World) (g mb q : Nat) (ao : Option Addr) (k cap : Nat) : Prop where
  kept : Kept (fun b => b = g) w wx
  ls : Ls wx 31 2 g (mkc q) ao k cap
  box : wx.heap[mb]? = some (.cells #[.int .i64 (-1000 - q), .int .i64 7] 31 (0, 0))
  ne : mb ≠ g

theorem KS.lt {w wx : World} {g mb q : Nat} {ao : Option Addr} {k cap : Nat} (h : KS w wx g mb q ao k cap) : mb < wx.heap.size := by
  rcases Nat.lt_or_ge mb wx.heap.size with h1 | h1
  · exact h1
  · have := h.box; rw [Array.getElem?_eq_none h1] at this; cases this
theorem KS.cell0 {w wx : World} {g mb q : Nat} {ao : Option Addr} {k cap : Nat} (h : KS w wx g mb q ao k cap) : wx.cell? ⟨mb, 0, none⟩ = some (.int .i64 (-1000 - q)) := by simp [World.cell?, h.box]
theorem KS.cell1 {w wx : World} {g mb q : Nat} {ao : Option Addr} {k cap : Nat} (h : KS w wx g mb q ao k cap) : wx.cell? ⟨mb, 1, none⟩ = some (.int .i64 7) := by simp [World.cell?, h.box]
theorem KS.mark {w wx : World} {g mb q : Nat} {ao : Option Addr} {k cap : Nat} (h : KS w wx g mb q ao k cap) (hne : ao ≠ none) (hk : k < cap) :
    KS w ((wx.setCell ⟨g, k * 2, none⟩ (.int .i64 (-1000 - q))).setCell ⟨g, k * 2 + 1, none⟩ (.int .i64 7)) g mb q ao (k + 1) cap :=
  ⟨(h.kept.trans (kept_setCell wx ⟨g, k * 2, none⟩ _) (fun _ _ x => x)).trans (kept_setCell _ ⟨g, k * 2 + 1, none⟩ _) (fun _ _ x => x), h.ls.mark hne hk,
    by rw [Below.heap_setCell _ _ _ _ h.ne, Below.heap_setCell _ _ _ _ h.ne]; exact h.box, h.ne⟩
theorem KS.on {w wx wy : World} {g mb q : Nat} {ao : Option Addr} {k cap : Nat} (h : KS w wx g mb q ao k cap) (hk : Kept (fun b => b = g) wx wy) (hls : Ls wy 31 2 g (mkc q) ao k cap) : KS w wy g mb q ao k cap :=
  ⟨h.kept.trans hk (fun _ _ x => x), hls, by rw [hk.block mb h.lt h.ne]; exact h.box, h.ne⟩
theorem KS.alloc {w wx : World} {g mb q : Nat} {ao : Option Addr} {k cap : Nat} (h : KS w wx g mb q ao k cap) (o : Obj) : KS w (wx.alloc o) g mb q ao k cap :=
  have hb := (Below.refl wx.heap.size wx).alloc (Nat.le_refl _) o
  h.on (kept_of_below _ hb) (h.ls.kept (kept_of_below (fun _ => False) hb) (fun x => x))

/-- One of the longer lists stays marked while another one is made. -/
theorem pat_on {w w' : World} {g b : Nat} {pat : Nat → Value} {k : Nat} (h : Pat w b pat k) (hb : b < w.heap.size) (hk : Kept (fun x => x = g) w w') (hg : ∀ k, g < w.heap.size → Pat w g pat k → Pat w' g pat k) : Pat w' b pat k := by
  by_cases e : b = g
  · subst e; exact hg k hb h
  · exact h.kept hk hb e

theorem pat_next {w2 w3 : World} {o : Obj} {g b : Nat} {pat : Nat → Value} {k : Nat} (h : Pat w2 b pat k) (hb : b < w2.heap.size) (kp : Kept (fun x => x = g) (w2.alloc o) w3)
    (pr : ∀ k, g < (w2.alloc o).heap.size → Pat (w2.alloc o) g pat k → Pat w3 g pat k) : Pat w3 b pat k ∧ b < w3.heap.size := by
  have hb2 := (Below.refl w2.heap.size w2).alloc (Nat.le_refl _) o
  have h2 : Pat (w2.alloc o) b pat k := h.kept (kept_of_below (fun _ => False) hb2) hb (fun x => x)
  exact ⟨pat_on h2 (Nat.lt_of_lt_of_le hb hb2.size) kp pr, Nat.lt_of_lt_of_le hb (Nat.le_trans hb2.size kp.size)⟩

theorem news_four (w : World) (a b c d : Value) : ∀ j u, [a, b, c, d][j]? = some u → (w.alloc (.cells #[a, b, c, d] 22)).cell? ((⟨w.heap.size, 0, none⟩ : Addr).add j) = some u :=
  World.news_of_block (cs := #[a, b, c, d]) (heap_alloc_new w _)

theorem mark_of {w w4 : World} {g b n cap q : Nat} (hn : n ≤ 1099511627776) (hp : Pat w4 b (mkc q) (n * 2)) (hb : b < w4.heap.size) (h : b = g ∨ w.heap.size ≤ b) : MarkV w4 (fun b => b = g ∨ w.heap.size ≤ b) (.slice (some ⟨b, 0, none⟩) n cap) q :=
  ⟨_, n, cap, rfl, hn, .inr ⟨b, rfl, h, hb, hp⟩⟩

theorem news_marks (w : World) (q m : Nat) (cs : Array Value) (h : cs.toList = flat (List.replicate m (-1000 - (q : Int), 7))) : ∀ j u, (flat (List.replicate m (-1000 - (q : Int), 7)))[j]? = some u → (w.alloc (.cells cs 31)).cell? ((⟨w.heap.size, 0, none⟩ : Addr).add j) = some u := by
  rw [← h]; exact World.news_of_block (cs := cs) (heap_alloc_new w _)
theorem mkc_flat_at (q n m : Nat) : ∀ j u, (flat (List.replicate m (-1000 - (q : Int), 7)))[j]? = some u → u = mkc q (n * 2 + j) := fun j u h => by rw [mkc_shift]; exact mkc_flat q m j u h

theorem ls_markV {w wx : World} {g q : Nat} {ao : Option Addr} {n cap : Nat} (h : Ls wx 31 2 g (mkc q) ao n cap) (hn : n ≤ 1099511627776) : MarkV wx (fun b => b = g ∨ w.heap.size ≤ b) (.slice ao n cap) q := by
  refine ⟨ao, n, cap, rfl, hn, ?_⟩
  rcases h with ⟨_, h, _⟩ | ⟨e, _, _, hp, cur, hg, _⟩
  · exact .inl h
  · exact .inr ⟨g, e, .inl rfl, (Array.getElem?_eq_some_iff.1 hg).1, hp⟩

theorem keep_cell {w w8 : World} {o : Obj} {bk : Nat} {K : Nat → Prop} {N : Nat} {ro : Option Addr} {rc : Nat} {vs : List Value} (h : BookI w bk K N ro rc vs) (hg : (w.alloc o).grownBy w8 (Value.ownBlock (.slice ro N rc))) :
    w8.cell? ⟨bk, 0, none⟩ = some (.slice ro N rc) ∧ w8.frozen? ⟨bk, 0, none⟩ = false := by
  have hlt := h.klt bk h.kbk
  have hb : w8.heap[bk]? = some (.cells #[.slice ro N rc, .slice none 0 0] 28 (0, 0)) := by
    rw [hg.block bk (by simp; omega) (fun e => (h.row bk e.symm).2 rfl), Below.heap_alloc _ _ _ hlt]; exact h.box
  exact ⟨by simp [World.cell?, hb], by simp [World.frozen?, hb]⟩

set_option maxHeartbeats 400000 in
theorem mark_more (n : Int) (w : World) (h0 : 0 ≤ n) (h1 : n ≤ 1000000000) :
    Calls Try.prog 18 #[.int .i64 n] w fun e w' => e = .returned (.agg #[.int .i64 (-1000 - n), .int .i64 7]) ∧ Below w.heap.size w w' ∧ w.heap.size < w'.heap.size := by
  go_enter Try.func18, Try.ntmps18
  go_wp2
  refine bodyPost_ret (v := .agg #[.int .i64 (-1000 - n), .int .i64 7]) ?_ rfl ⟨rfl, (Below.refl _ _).alloc (Nat.le_refl _) _, by simp⟩
  simp [results, Try.results18, go_sem]

set_option maxHeartbeats 1000000 in
theorem keep_any (w : World) (bk g q : Nat) (K : Nat → Prop) (ro : Option Addr) (rc : Nat) (vs : List Value) (ao : Option Addr) (n cap : Nat)
    (hB : BookI w bk K (4 * q) ro rc vs) (hgK : ¬ K g) (hg : g < w.heap.size ∨ ao = none) (hl : Ls w 31 2 g (mkc q) ao 0 cap) (hn : n ≤ cap) (hn2 : n ≤ 1099511627770) (hq : q ≤ 1000000000) (hnn : ao = none → n = 0) (hgg : g ≤ w.heap.size) :
    Calls Try.prog 17 #[.pointer (some ⟨bk, 0, none⟩), .slice ao n cap] w fun e w' => e = .returned (.tuple #[]) ∧
      ∃ K' ro' rc' vs', BookI w' bk K' (4 * (q + 1)) ro' rc' vs' ∧ (∀ b, K' b → K b ∨ (b = g ∧ g < w.heap.size) ∨ w.heap.size ≤ b) ∧ Kept (fun b => K b ∨ b = g) w w' := by
  obtain ⟨i0, hi0, hz0, hz1, hz2⟩ := info_parts Try.info31
  obtain ⟨i1, hi1, hy0, hy1, hy2⟩ := info_parts Try.info22
  have hkb := hB.klt bk hB.kbk
  have c0 := hB.cell0
  go_enter Try.func17, Try.ntmps17
  go_wp2_with fail
  refine (mark_more q _ (by omega) (by omega)).mono ?_
  rintro e w1 ⟨rfl, hb1, hs1⟩
  have k0 : KS w (w1.alloc (.cells #[.int .i64 (-1000 - q), .int .i64 7] 31)) g w1.heap.size q ao 0 cap := by
    have hb2 : Below w.heap.size w (w1.alloc (.cells #[.int .i64 (-1000 - q), .int .i64 7] 31)) := hb1.alloc hb1.size _
    exact ⟨kept_of_below _ hb2, hl.kept (kept_of_below (fun _ => False) hb2) (fun x => x), heap_alloc_new w1 _, by omega⟩
  clear hb1
  go_wp2_with fail
  generalize w1.heap.size = mb at *
  go_loopw [5] (fun i wr => ∃ k : Nat, k ≤ n ∧ i = .int .i64 k ∧ KS w wr g mb q ao k cap) (fun i _ => n - (intOf i).toNat)
  case atStart => exact ⟨0, Nat.zero_le _, rfl, k0⟩
  case round =>
    clear k0
    obtain ⟨k, hk, rfl, hS⟩ := hrel
    have m0 := hS.cell0
    have m1 := hS.cell1
    by_cases hlt : k < n
    · have hne : ao ≠ none := fun e => by have := hnn e; omega
      obtain ⟨hg1, he⟩ := hS.ls.lt hne
      subst he
      obtain ⟨⟨u0, e0⟩, f0⟩ := hS.ls.cells hne (k * 2) (by omega)
      obtain ⟨⟨u1, e1⟩, f1⟩ := hS.ls.cells hne (k * 2 + 1) (by omega)
      clear hne
      go_wp2
      go_roundw
      case rel => exact ⟨k + 1, by omega, by go_num, hS.mark (by simp) (by omega)⟩
      case measure => simp [intOf]; omega
    · have hkn : n = k := by omega
      subst hkn
      go_wp2_with (first | (at_builtin; refine wpList_append_pat rfl (.tmp 26) (.tmp 28) 22 rfl 31 i0 _ 2 16 Try.underlying22 hi0 hz0 hz1 hz2 g (mkc q) ao n cap rfl (hS.alloc _).ls ⟨wr.heap.size, 0, none⟩ 1 1 (flat (List.replicate 1 (-1000 - (q : Int), 7))) rfl (by simp [flat_length]) (news_marks _ q 1 _ rfl) (flat_oneCell _) (mkc_flat_at q n 1) (by omega) (by unfold maxLen; omega) (by omega) ?_; intro b2 cap2 w2 P2 at2 lt2 cl2 kp2 ls2 pr2; have s2 := (hS.alloc _).on kp2 ls2; have s2c := s2.cell0; have s2d := s2.cell1) | (at_builtin; refine wpList_append_pat rfl (.tmp 30) (.tmp 33) 22 rfl 31 i0 _ 2 16 Try.underlying22 hi0 hz0 hz1 hz2 g (mkc q) ao n cap rfl (s2.alloc _).ls ⟨w2.heap.size, 0, none⟩ 2 2 (flat (List.replicate 2 (-1000 - (q : Int), 7))) rfl (by simp [flat_length]) (news_marks _ q 2 _ rfl) (flat_oneCell _) (mkc_flat_at q n 2) (by omega) (by unfold maxLen; omega) (by omega) ?_; intro b3 cap3 w3 P3 at3 lt3 cl3 kp3 ls3 pr3; have s3 := (s2.alloc _).on kp3 ls3; have s3c := s3.cell0; have s3d := s3.cell1) | (at_builtin; refine wpList_append_pat rfl (.tmp 35) (.tmp 39) 22 rfl 31 i0 _ 2 16 Try.underlying22 hi0 hz0 hz1 hz2 g (mkc q) ao n cap rfl (s3.alloc _).ls ⟨w3.heap.size, 0, none⟩ 3 3 (flat (List.replicate 3 (-1000 - (q : Int), 7))) rfl (by simp [flat_length]) (news_marks _ q 3 _ rfl) (flat_oneCell _) (mkc_flat_at q n 3) (by omega) (by unfold maxLen; omega) (by omega) ?_; intro b4 cap4 w4 P4 at4 lt4 cl4 kp4 ls4 pr4; have s4 := (s3.alloc _).on kp4 ls4; have hB4 := hB.kept s4.kept (fun b hb e => hgK (e ▸ hb)); have cb4 := hB4.cell0) | (at_builtin; refine wpList_append_lies _ rfl (.tmp 45) (.tmp 50) 25 rfl 0 22 i1 _ 1 24 Try.underlying25 hi1 hy0 hy1 hy2 rfl (by decide) _ (4 * q) vs rfl (hB4.own.alloc _) ⟨w4.heap.size, 0, none⟩ 4 4 [.slice ao n cap, .slice (some ⟨b2, 0, none⟩) (n + 1) cap2, .slice (some ⟨b3, 0, none⟩) (n + 2) cap3, .slice (some ⟨b4, 0, none⟩) (n + 3) cap4] rfl rfl (news_four _ _ _ _ _) (by intro u hu; simp at hu; rcases hu with rfl | rfl | rfl | rfl <;> rfl) (by omega) (by unfold maxLen; omega) (by omega) (Nat.zero_le _) (w4.heap.size + 1) (by simp) ?_; intro g8 c8 w8 hown8 hgrow8 hat8 hlt8; have hB8 := keep_cell hB4 hgrow8; have cb8 := hB8.1; have cf8 := hB8.2))
      go_end0
      refine ⟨rfl, ?_⟩
      have n2 := pat_next P2 lt2 kp3 pr3
      have n2' := pat_next n2.1 n2.2 kp4 pr4
      have n3 := pat_next P3 lt3 kp4 pr4
      have z0 := hS.kept.size
      have z2 := s2.kept.size
      have z3 := s3.kept.size
      have y2 : b2 = g ∨ w.heap.size ≤ b2 := by
        rcases at2 with h | h
        · exact .inl h.1
        · right; simp at h; omega
      have y3 : b3 = g ∨ w.heap.size ≤ b3 := by
        rcases at3 with h | h
        · exact .inl h.1
        · right; simp at h; omega
      have y4 : b4 = g ∨ w.heap.size ≤ b4 := by
        rcases at4 with h | h
        · exact .inl h.1
        · right; simp at h; omega
      have hE := keep_end hB hgK s4.kept (ls_markV (w := w) s4.ls (by omega)) (mark_of (w := w) (cap := cap2) (by omega) n2'.1 n2'.2 y2) (mark_of (w := w) (cap := cap3) (by omega) n3.1 n3.2 y3) (mark_of (w := w) (cap := cap4) (by omega) P4 lt4 y4) rfl hown8 hgrow8 (Or.elim hat8 (fun h => .inl h) (fun h => .inr (by rw [h]; simp))) hlt8
      refine ⟨_, _, _, _, hE.1, fun b hb => ?_, hE.2⟩
      rcases hb with h | h | h
      · exact .inl h
      · exact .inr (.inl h)
      · exact .inr (.inr h.1)

end Go.Proofs.Ytockkceclkcgbaa

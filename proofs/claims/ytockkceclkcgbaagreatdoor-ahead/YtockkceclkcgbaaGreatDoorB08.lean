/- The contracts of Book.keepRanges and Book.keepDeliveries: the list that came out is written full, and stands in the book with three longer ones. -/
import Derived.Test.YtockkceclkcgbaaGreatDoorB07
namespace Go.Proofs.YtockkceclkcgbaaGreatDoor
open Go.RowKit

attribute [local go_sem] over_cell

/-- a mark's cells, m times -/
def reps (l : List Value) : Nat → List Value
  | 0 => []
  | m + 1 => l ++ reps l m
/-- cell j of a list written full with the mark -/
def patOf (l : List Value) (j : Nat) : Value := l.getD (j % l.length) (.int .i64 0)
theorem reps_length (l : List Value) : ∀ m, (reps l m).length = m * l.length
  | 0 => by simp [reps]
  | m + 1 => by simp [reps, reps_length l m, Nat.add_mul, Nat.add_comm]
theorem reps_mem (l : List Value) : ∀ m, ∀ u ∈ reps l m, u ∈ l
  | 0, u, h => by cases h
  | m + 1, u, h => by
    rcases List.mem_append.1 h with h | h
    · exact h
    · exact reps_mem l m u h
theorem patOf_shift (l : List Value) (n j : Nat) : patOf l (n * l.length + j) = patOf l j := by simp [patOf, Nat.mul_add_mod_self_right]
theorem reps_at (l : List Value) : ∀ m j u, (reps l m)[j]? = some u → u = patOf l j
  | 0, j, u, h => by simp [reps] at h
  | m + 1, j, u, h => by
    rw [reps] at h
    by_cases hj : j < l.length
    · rw [List.getElem?_append_left hj] at h
      simp [patOf, Nat.mod_eq_of_lt hj, List.getD, h]
    · rw [List.getElem?_append_right (by omega)] at h
      have h2 := reps_at l m _ u h
      rw [h2, ← patOf_shift l 1]
      congr 1
      omega
theorem reps_pat (l : List Value) (n m : Nat) : ∀ j u, (reps l m)[j]? = some u → u = patOf l (n * l.length + j) := fun j u h => by rw [patOf_shift]; exact reps_at l m j u h

def markRV (q : Nat) : List Value := [.int .i64 (-1000 - q), .int .i64 7]
def markDV (q : Nat) : List Value := [.int .i64 (-1000 - q), .int .i64 0, .string callers]

theorem info_lr : (Tryz.prog.info? 74).map (fun i => (i.zero, i.size, i.bytes)) = some (some (.slice none 0 0), 1, 24) := by kernel_rfl
theorem info_ld : (Tryz.prog.info? 77).map (fun i => (i.zero, i.size, i.bytes)) = some (some (.slice none 0 0), 1, 24) := by kernel_rfl
theorem info_d : (Tryz.prog.info? 82).map (fun i => (i.zero, i.size, i.bytes)) = some (some (.agg #[.int .i64 0, .int .i64 0, .string ⟨#[]⟩]), 3, 32) := by kernel_rfl

set_option maxHeartbeats 400000 in
theorem markR_any (n : Int) (w : World) (h0 : 0 ≤ n) (h1 : n ≤ 1000000000000000) :
    Calls Tryz.prog 86 #[.int .i64 n] w fun e w' => e = .returned (.agg #[.int .i64 (-1000 - n), .int .i64 7]) ∧ Below w.heap.size w w' ∧ w.heap.size < w'.heap.size := by
  go_enter Tryz.func86, Tryz.ntmps86
  go_wp2
  refine bodyPost_ret (v := .agg #[.int .i64 (-1000 - n), .int .i64 7]) ?_ rfl ⟨rfl, (Below.refl _ _).alloc (Nat.le_refl _) _, by simp⟩
  simp [results, Tryz.results86, go_sem]

theorem four_one (a b c d : Value) (ha : a.oneCell' = true) (hb : b.oneCell' = true) (hc : c.oneCell' = true) (hd : d.oneCell' = true) : ∀ u ∈ [a, b, c, d], u.oneCell' = true := by
  intro u hu
  simp at hu
  rcases hu with rfl | rfl | rfl | rfl <;> assumption

theorem at_fresh {w w2 : World} {T : Nat → Tag} {t : Tag} {g b : Nat} {ao : Option Addr} (hg : fresh w T t g = t) (h : (b = g ∧ ao = some ⟨g, 0, none⟩) ∨ b = w2.heap.size) (hs : w.heap.size ≤ w2.heap.size) : fresh w T t b = t := by
  rcases h with ⟨rfl, _⟩ | rfl
  · exact hg
  · exact fresh_new hs

set_option maxRecDepth 100000 in
set_option maxHeartbeats 2000000 in
theorem keepR_any (w : World) (T : Nat → Tag) (wb : Nat) (cs : Array Value) (q n : Nat) (v vl : Value) (xs : List Value) (hW : Blk w T .world wb cs 33) (hc : cs[9]? = some v)
    (hB : Bk w T 9 74 2 (fun q => patOf (markRV q)) v q) (hl : Row w T ⟨10, q, 0, 0⟩ 69 2 vl n xs) (hn : n ≤ 1099511627770) (hq : q ≤ 1000000000) :
    Calls Tryz.prog 49 #[.pointer (some ⟨wb, 9, none⟩), vl] w fun e w' => e = .returned (.tuple #[]) ∧
      ∃ T' v', Step (KeepS 9 q) w T w' T' ∧ Blk w' T' .world wb (cs.setIfInBounds 9 v') 33 ∧ Bk w' T' 9 74 2 (fun q => patOf (markRV q)) v' (q + 1) := by
  obtain ⟨i0, hi0, hz0, hz1, hz2⟩ := info_parts info31
  obtain ⟨i1, hi1, hy0, hy1, hy2⟩ := info_parts info_lr
  obtain ⟨ao, cap, rfl⟩ := row_form hl
  obtain ⟨vs, hR, hm⟩ := hB
  obtain ⟨ro, rc, rfl⟩ := row_form hR
  obtain ⟨g, hls, hnc, hnn, hgg, hgt⟩ := row_ls hl (patOf (markRV q))
  have hbg : wb ≠ g := by
    rintro rfl
    rw [fresh_old hW.lt, hW.1] at hgt
    have := congrArg Tag.c hgt
    simp at this
  have c0 := hW.cell hc
  go_enter Tryz.func49, Tryz.ntmps49
  go_wp2_with fail
  refine (markR_any q _ (by omega) (by omega)).mono ?_
  rintro e w1 ⟨rfl, hb1, hs1⟩
  have k0 : KS w (w1.alloc (.cells #[.int .i64 (-1000 - q), .int .i64 7] 69)) 69 2 (patOf (markRV q)) g w1.heap.size #[.int .i64 (-1000 - q), .int .i64 7] ao 0 cap := by
    have hb2 : Below w.heap.size w (w1.alloc (.cells #[.int .i64 (-1000 - q), .int .i64 7] 69)) := hb1.alloc hb1.size _
    exact ⟨kept_of_below _ hb2, hls.kept (kept_of_below (fun _ => False) hb2) (fun x => x), heap_alloc_new w1 _, by omega⟩
  clear hb1 hls
  go_wp2_with fail
  generalize w1.heap.size = mb at *
  go_loopw [5] (fun i wr => ∃ k : Nat, k ≤ n ∧ i = .int .i64 k ∧ KS w wr 69 2 (patOf (markRV q)) g mb #[.int .i64 (-1000 - q), .int .i64 7] ao k cap) (fun i _ => n - (intOf i).toNat)
  case atStart => exact ⟨0, Nat.zero_le _, rfl, k0⟩
  case round =>
    clear k0
    obtain ⟨k, hk, rfl, hS⟩ := hrel
    have m0 := hS.cell (j := 0) rfl
    have m1 := hS.cell (j := 1) rfl
    by_cases hlt : k < n
    · have hne : ao ≠ none := fun e => by have := hnn e; omega
      obtain ⟨hg1, he⟩ := hS.ls.lt hne
      subst he
      obtain ⟨⟨u0, e0⟩, f0⟩ := hS.ls.cells hne (k * 2) (by omega)
      obtain ⟨⟨u1, e1⟩, f1⟩ := hS.ls.cells hne (k * 2 + 1) (by omega)
      have hS2 : KS w ((wr.setCell ⟨g, k * 2, none⟩ (.int .i64 (-1000 - q))).setCell ⟨g, k * 2 + 1, none⟩ (.int .i64 7)) 69 2 (patOf (markRV q)) g mb #[.int .i64 (-1000 - q), .int .i64 7] (some ⟨g, 0, none⟩) (k + 1) cap := by
        refine hS.on ((kept_setCell wr ⟨g, k * 2, none⟩ _).trans (kept_setCell _ ⟨g, k * 2 + 1, none⟩ _) (fun _ _ x => x)) ?_
        rcases hS.ls with ⟨e, _⟩ | ⟨e, h2, h3, hp, cur, hg, hs⟩
        · cases e
        · have r1 := Ls.put hne (k * 2) (by omega) (.int .i64 (-1000 - q)) (by rw [show k * 2 = k * (markRV q).length + 0 from rfl, patOf_shift]; rfl) ⟨e, h3, hp, cur, hg, hs⟩
          obtain ⟨a1, a2, a3, a4⟩ := Ls.put hne (k * 2 + 1) (by omega) (.int .i64 7) (by rw [show k * 2 + 1 = k * (markRV q).length + 1 from rfl, patOf_shift]; rfl) r1
          exact .inr ⟨a1, by omega, a2, by rw [show (k + 1) * 2 = k * 2 + 1 + 1 by omega]; exact a3, a4⟩
      clear hne
      go_wp2
      go_roundw
      case rel => exact ⟨k + 1, by omega, by go_num, hS2⟩
      case measure => simp [intOf]; omega
    · have hkn : n = k := by omega
      subst hkn
      have hlen : (markRV q).length = 2 := rfl
      have h1c : ∀ m, ∀ u ∈ reps (markRV q) m, u.oneCell' = true := fun m u hu => by
        have := reps_mem _ _ _ hu
        simp [markRV] at this
        rcases this with rfl | rfl <;> rfl
      go_wp2_with (first
        | (at_builtin; refine wpList_append_pat rfl (.tmp 26) (.tmp 28) 74 rfl 69 i0 _ 2 16 Tryz.underlying74 hi0 hz0 hz1 hz2 g (patOf (markRV q)) ao n cap rfl (hS.alloc _).ls ⟨wr.heap.size, 0, none⟩ 1 1 (reps (markRV q) 1) rfl (reps_length _ _) (news_blk _ _ _ _ rfl) (h1c 1) (reps_pat _ n 1) (by omega) (by unfold maxLen; omega) (by omega) ?_; intro b2 cap2 w2 P2 at2 lt2 cl2 kp2 ls2 pr2; have s2 := (hS.alloc _).on kp2 ls2; have s2c := s2.cell (j := 0) rfl; have s2d := s2.cell (j := 1) rfl)
        | (at_builtin; refine wpList_append_pat rfl (.tmp 30) (.tmp 33) 74 rfl 69 i0 _ 2 16 Tryz.underlying74 hi0 hz0 hz1 hz2 g (patOf (markRV q)) ao n cap rfl (s2.alloc _).ls ⟨w2.heap.size, 0, none⟩ 2 2 (reps (markRV q) 2) rfl (reps_length _ _) (news_blk _ _ _ _ rfl) (h1c 2) (reps_pat _ n 2) (by omega) (by unfold maxLen; omega) (by omega) ?_; intro b3 cap3 w3 P3 at3 lt3 cl3 kp3 ls3 pr3; have s3 := (s2.alloc _).on kp3 ls3; have s3c := s3.cell (j := 0) rfl; have s3d := s3.cell (j := 1) rfl)
        | (at_builtin; refine wpList_append_pat rfl (.tmp 35) (.tmp 39) 74 rfl 69 i0 _ 2 16 Tryz.underlying74 hi0 hz0 hz1 hz2 g (patOf (markRV q)) ao n cap rfl (s3.alloc _).ls ⟨w3.heap.size, 0, none⟩ 3 3 (reps (markRV q) 3) rfl (reps_length _ _) (news_blk _ _ _ _ rfl) (h1c 3) (reps_pat _ n 3) (by omega) (by unfold maxLen; omega) (by omega) ?_; intro b4 cap4 w4 P4 at4 lt4 cl4 kp4 ls4 pr4; have s4 := (s3.alloc _).on kp4 ls4; have st4 := step_keep s4.kept hgt; have hW4 := hW.step st4 (by simp); have cb4 := hW4.cell hc; have hR4 := (hR.step st4 (by simp)).step (step_alloc w4 (fresh w T ⟨10, q, 0, 0⟩) (.cells #[.slice ao n cap, .slice (some ⟨b2, 0, none⟩) (n + 1) cap2, .slice (some ⟨b3, 0, none⟩) (n + 2) cap3, .slice (some ⟨b4, 0, none⟩) (n + 3) cap4] 74) (fun _ => False)) (fun h => h))
        | (at_builtin; refine wpList_append_row rfl (.tmp 45) (.tmp 50) 28 rfl 74 i1 _ 1 24 Tryz.underlying28 hi1 hy0 hy1 hy2 rfl (by decide) _ (4 * q) vs rfl hR4 ⟨w4.heap.size, 0, none⟩ 4 4 [.slice ao n cap, .slice (some ⟨b2, 0, none⟩) (n + 1) cap2, .slice (some ⟨b3, 0, none⟩) (n + 2) cap3, .slice (some ⟨b4, 0, none⟩) (n + 3) cap4] rfl rfl (news_blk _ _ _ _ rfl) (four_one _ _ _ _ rfl rfl rfl rfl) (by decide) (by unfold maxLen; omega) (by omega) ?_; intro g8 c8 w8 T8 hR8 hs8; have hW8 := (hW4.step (step_alloc _ _ _ (fun _ => False)) (fun h => h)).step hs8 (by simp); have cb8 := hW8.cell hc; have fb8 := hW8.frozen 9)
        | go_in)
      go_end0
      refine ⟨rfl, ?_⟩
      have n2 := pat_next P2 lt2 kp3 pr3
      have n2' := pat_next n2.1 n2.2 kp4 pr4
      have n3 := pat_next P3 lt3 kp4 pr4
      have z0 := hS.kept.size
      have z2 := s2.kept.size
      have z3 := s3.kept.size
      have y2 : fresh w T ⟨10, q, 0, 0⟩ b2 = ⟨10, q, 0, 0⟩ := at_fresh hgt at2 (by simp; omega)
      have y3 : fresh w T ⟨10, q, 0, 0⟩ b3 = ⟨10, q, 0, 0⟩ := at_fresh hgt at3 (by simp; omega)
      have y4 : fresh w T ⟨10, q, 0, 0⟩ b4 = ⟨10, q, 0, 0⟩ := at_fresh hgt at4 (by simp; omega)
      have hq4 : ∀ i u, vs[i]? = some u → i / 4 < q := fun i u hu => by
        have := (List.getElem?_eq_some_iff.1 hu).1
        have := hR.1.1
        omega
      have st9 : Step (fun s => s = .world) w8 T8 (w8.setCell ⟨wb, 9, none⟩ (.slice (some ⟨g8, 0, none⟩) (4 * q + 4) c8)) T8 := step_setCell w8 T8 wb 9 _ hW8.1
      have hE := keep_end (pat := fun q => patOf (markRV q)) (fun i u hu => (hm i u hu).step st4 (fun h => by have := hq4 i u hu; simp at h; omega)) (by have := hR.1.1; omega) (ls_mk s4.ls (by omega) hgt) (mk_of (cap := cap2) (by omega) n2'.1 n2'.2 y2) (mk_of (cap := cap3) (by omega) n3.1 n3.2 y3) (mk_of (cap := cap4) (by omega) P4 lt4 y4) (step_alloc _ _ _ _) hs8 hR8 st9 (by decide)
      exact ⟨T8, _, (((st4.mono (fun _ h => .inr (.inr h))).trans (step_alloc _ _ _ _)).trans (hs8.mono (fun _ h => .inr (.inl h)))).trans (st9.mono (fun _ h => .inl h)), hW8.set 9 _, hE⟩

set_option maxRecDepth 100000 in
set_option maxHeartbeats 2000000 in
theorem keepD_any (w : World) (T : Nat → Tag) (wb : Nat) (cs : Array Value) (q n : Nat) (v vl : Value) (xs : List Value) (hW : Blk w T .world wb cs 33) (hc : cs[10]? = some v)
    (hB : Bk w T 11 77 3 (fun q => patOf (markDV q)) v q) (hl : Row w T ⟨12, q, 0, 0⟩ 82 3 vl n xs) (hn : n ≤ 1099511627770) (hq : q ≤ 1000000000) :
    Calls Tryz.prog 52 #[.pointer (some ⟨wb, 9, none⟩), vl] w fun e w' => e = .returned (.tuple #[]) ∧
      ∃ T' v', Step (KeepS 11 q) w T w' T' ∧ Blk w' T' .world wb (cs.setIfInBounds 10 v') 33 ∧ Bk w' T' 11 77 3 (fun q => patOf (markDV q)) v' (q + 1) := by
  obtain ⟨i0, hi0, hz0, hz1, hz2⟩ := info_parts info_d
  obtain ⟨i1, hi1, hy0, hy1, hy2⟩ := info_parts info_ld
  obtain ⟨ao, cap, rfl⟩ := row_form hl
  obtain ⟨vs, hR, hm⟩ := hB
  obtain ⟨ro, rc, rfl⟩ := row_form hR
  obtain ⟨g, hls, hnc, hnn, hgg, hgt⟩ := row_ls hl (patOf (markDV q))
  have hbg : wb ≠ g := by
    rintro rfl
    rw [fresh_old hW.lt, hW.1] at hgt
    have := congrArg Tag.c hgt
    simp at this
  have c0 := hW.cell hc
  go_enter Tryz.func52, Tryz.ntmps52
  go_wp2_with fail
  refine (markD_any q _ (by omega) (by omega)).mono ?_
  rintro e w1 ⟨rfl, hb1, hs1⟩
  have k0 : KS w (w1.alloc (.cells #[.int .i64 (-1000 - q), .int .i64 0, .string callers] 82)) 82 3 (patOf (markDV q)) g w1.heap.size #[.int .i64 (-1000 - q), .int .i64 0, .string callers] ao 0 cap := by
    have hb2 : Below w.heap.size w (w1.alloc (.cells #[.int .i64 (-1000 - q), .int .i64 0, .string callers] 82)) := hb1.alloc hb1.size _
    exact ⟨kept_of_below _ hb2, hls.kept (kept_of_below (fun _ => False) hb2) (fun x => x), heap_alloc_new w1 _, by omega⟩
  clear hb1 hls
  go_wp2_with fail
  generalize w1.heap.size = mb at *
  go_loopw [5] (fun i wr => ∃ k : Nat, k ≤ n ∧ i = .int .i64 k ∧ KS w wr 82 3 (patOf (markDV q)) g mb #[.int .i64 (-1000 - q), .int .i64 0, .string callers] ao k cap) (fun i _ => n - (intOf i).toNat)
  case atStart => exact ⟨0, Nat.zero_le _, rfl, k0⟩
  case round =>
    clear k0
    obtain ⟨k, hk, rfl, hS⟩ := hrel
    have m0 := hS.cell (j := 0) rfl
    have m1 := hS.cell (j := 1) rfl
    have m2 := hS.cell (j := 2) rfl
    by_cases hlt : k < n
    · have hne : ao ≠ none := fun e => by have := hnn e; omega
      obtain ⟨hg1, he⟩ := hS.ls.lt hne
      subst he
      obtain ⟨⟨u0, e0⟩, f0⟩ := hS.ls.cells hne (k * 3) (by omega)
      obtain ⟨⟨u1, e1⟩, f1⟩ := hS.ls.cells hne (k * 3 + 1) (by omega)
      obtain ⟨⟨u2, e2⟩, f2⟩ := hS.ls.cells hne (k * 3 + 2) (by omega)
      have hS2 : KS w (((wr.setCell ⟨g, k * 3, none⟩ (.int .i64 (-1000 - q))).setCell ⟨g, k * 3 + 1, none⟩ (.int .i64 0)).setCell ⟨g, k * 3 + 2, none⟩ (.string callers)) 82 3 (patOf (markDV q)) g mb #[.int .i64 (-1000 - q), .int .i64 0, .string callers] (some ⟨g, 0, none⟩) (k + 1) cap := by
        refine hS.on (((kept_setCell wr ⟨g, k * 3, none⟩ _).trans (kept_setCell _ ⟨g, k * 3 + 1, none⟩ _) (fun _ _ x => x)).trans (kept_setCell _ ⟨g, k * 3 + 2, none⟩ _) (fun _ _ x => x)) ?_
        rcases hS.ls with ⟨e, _⟩ | ⟨e, h2, h3, hp, cur, hg, hs⟩
        · cases e
        · have r1 := Ls.put hne (k * 3) (by omega) (.int .i64 (-1000 - q)) (by rw [show k * 3 = k * (markDV q).length + 0 from rfl, patOf_shift]; rfl) ⟨e, h3, hp, cur, hg, hs⟩
          have r2 := Ls.put hne (k * 3 + 1) (by omega) (.int .i64 0) (by rw [show k * 3 + 1 = k * (markDV q).length + 1 from rfl, patOf_shift]; rfl) r1
          obtain ⟨a1, a2, a3, a4⟩ := Ls.put hne (k * 3 + 2) (by omega) (.string callers) (by rw [show k * 3 + 2 = k * (markDV q).length + 2 from rfl, patOf_shift]; rfl) r2
          exact .inr ⟨a1, by omega, a2, by rw [show (k + 1) * 3 = k * 3 + 2 + 1 by omega]; exact a3, a4⟩
      clear hne
      go_wp2
      go_roundw
      case rel => exact ⟨k + 1, by omega, by go_num, hS2⟩
      case measure => simp [intOf]; omega
    · have hkn : n = k := by omega
      subst hkn
      have hlen : (markDV q).length = 3 := rfl
      have h1c : ∀ m, ∀ u ∈ reps (markDV q) m, u.oneCell' = true := fun m u hu => by
        have := reps_mem _ _ _ hu
        simp [markDV] at this
        rcases this with rfl | rfl | rfl <;> rfl
      go_wp2_with (first
        | (at_builtin; refine wpList_append_pat rfl (.tmp 26) (.tmp 28) 77 rfl 82 i0 _ 3 32 Tryz.underlying77 hi0 hz0 hz1 hz2 g (patOf (markDV q)) ao n cap rfl (hS.alloc _).ls ⟨wr.heap.size, 0, none⟩ 1 1 (reps (markDV q) 1) rfl (reps_length _ _) (news_blk _ _ _ _ rfl) (h1c 1) (reps_pat _ n 1) (by omega) (by unfold maxLen; omega) (by omega) ?_; intro b2 cap2 w2 P2 at2 lt2 cl2 kp2 ls2 pr2; have s2 := (hS.alloc _).on kp2 ls2; have s2c := s2.cell (j := 0) rfl; have s2d := s2.cell (j := 1) rfl; have s2e := s2.cell (j := 2) rfl)
        | (at_builtin; refine wpList_append_pat rfl (.tmp 30) (.tmp 33) 77 rfl 82 i0 _ 3 32 Tryz.underlying77 hi0 hz0 hz1 hz2 g (patOf (markDV q)) ao n cap rfl (s2.alloc _).ls ⟨w2.heap.size, 0, none⟩ 2 2 (reps (markDV q) 2) rfl (reps_length _ _) (news_blk _ _ _ _ rfl) (h1c 2) (reps_pat _ n 2) (by omega) (by unfold maxLen; omega) (by omega) ?_; intro b3 cap3 w3 P3 at3 lt3 cl3 kp3 ls3 pr3; have s3 := (s2.alloc _).on kp3 ls3; have s3c := s3.cell (j := 0) rfl; have s3d := s3.cell (j := 1) rfl; have s3e := s3.cell (j := 2) rfl)
        | (at_builtin; refine wpList_append_pat rfl (.tmp 35) (.tmp 39) 77 rfl 82 i0 _ 3 32 Tryz.underlying77 hi0 hz0 hz1 hz2 g (patOf (markDV q)) ao n cap rfl (s3.alloc _).ls ⟨w3.heap.size, 0, none⟩ 3 3 (reps (markDV q) 3) rfl (reps_length _ _) (news_blk _ _ _ _ rfl) (h1c 3) (reps_pat _ n 3) (by omega) (by unfold maxLen; omega) (by omega) ?_; intro b4 cap4 w4 P4 at4 lt4 cl4 kp4 ls4 pr4; have s4 := (s3.alloc _).on kp4 ls4; have st4 := step_keep s4.kept hgt; have hW4 := hW.step st4 (by simp); have cb4 := hW4.cell hc; have hR4 := (hR.step st4 (by simp)).step (step_alloc w4 (fresh w T ⟨12, q, 0, 0⟩) (.cells #[.slice ao n cap, .slice (some ⟨b2, 0, none⟩) (n + 1) cap2, .slice (some ⟨b3, 0, none⟩) (n + 2) cap3, .slice (some ⟨b4, 0, none⟩) (n + 3) cap4] 77) (fun _ => False)) (fun h => h))
        | (at_builtin; refine wpList_append_row rfl (.tmp 45) (.tmp 50) 29 rfl 77 i1 _ 1 24 Tryz.underlying29 hi1 hy0 hy1 hy2 rfl (by decide) _ (4 * q) vs rfl hR4 ⟨w4.heap.size, 0, none⟩ 4 4 [.slice ao n cap, .slice (some ⟨b2, 0, none⟩) (n + 1) cap2, .slice (some ⟨b3, 0, none⟩) (n + 2) cap3, .slice (some ⟨b4, 0, none⟩) (n + 3) cap4] rfl rfl (news_blk _ _ _ _ rfl) (four_one _ _ _ _ rfl rfl rfl rfl) (by decide) (by unfold maxLen; omega) (by omega) ?_; intro g8 c8 w8 T8 hR8 hs8; have hW8 := (hW4.step (step_alloc _ _ _ (fun _ => False)) (fun h => h)).step hs8 (by simp); have cb8 := hW8.cell hc; have fb8 := hW8.frozen 10)
        | go_in)
      go_end0
      refine ⟨rfl, ?_⟩
      have n2 := pat_next P2 lt2 kp3 pr3
      have n2' := pat_next n2.1 n2.2 kp4 pr4
      have n3 := pat_next P3 lt3 kp4 pr4
      have z0 := hS.kept.size
      have z2 := s2.kept.size
      have z3 := s3.kept.size
      have y2 : fresh w T ⟨12, q, 0, 0⟩ b2 = ⟨12, q, 0, 0⟩ := at_fresh hgt at2 (by simp; omega)
      have y3 : fresh w T ⟨12, q, 0, 0⟩ b3 = ⟨12, q, 0, 0⟩ := at_fresh hgt at3 (by simp; omega)
      have y4 : fresh w T ⟨12, q, 0, 0⟩ b4 = ⟨12, q, 0, 0⟩ := at_fresh hgt at4 (by simp; omega)
      have hq4 : ∀ i u, vs[i]? = some u → i / 4 < q := fun i u hu => by
        have := (List.getElem?_eq_some_iff.1 hu).1
        have := hR.1.1
        omega
      have st9 : Step (fun s => s = .world) w8 T8 (w8.setCell ⟨wb, 10, none⟩ (.slice (some ⟨g8, 0, none⟩) (4 * q + 4) c8)) T8 := step_setCell w8 T8 wb 10 _ hW8.1
      have hE := keep_end (pat := fun q => patOf (markDV q)) (fun i u hu => (hm i u hu).step st4 (fun h => by have := hq4 i u hu; simp at h; omega)) (by have := hR.1.1; omega) (ls_mk s4.ls (by omega) hgt) (mk_of (cap := cap2) (by omega) n2'.1 n2'.2 y2) (mk_of (cap := cap3) (by omega) n3.1 n3.2 y3) (mk_of (cap := cap4) (by omega) P4 lt4 y4) (step_alloc _ _ _ _) hs8 hR8 st9 (by decide)
      exact ⟨T8, _, (((st4.mono (fun _ h => .inr (.inr h))).trans (step_alloc _ _ _ _)).trans (hs8.mono (fun _ h => .inr (.inl h)))).trans (st9.mono (fun _ h => .inl h)), hW8.set 10 _, hE⟩

end Go.Proofs.YtockkceclkcgbaaGreatDoor

/- The contract of Book.whole: the book as it stands is whole. -/
namespace Go.Proofs.YtockkceclkcgbaaGreatDoor
open Go.RowKit

attribute [local go_sem] over_cell

/-- List number i of a row of the book: its cell in the row, and its own cells. -/
theorem Bk.at {w : World} {T : Nat → Tag} {c : Nat} {e : TypeId} {size : Nat} {pat : Nat → Nat → Value} {ro : Option Addr} {rc N q : Nat} (h : Bk w T c e size pat (.slice ro N rc) q) (i : Nat) (hi : i < 4 * q) :
    ∃ gr ao n cap, ro = some ⟨gr, 0, none⟩ ∧ gr < w.heap.size ∧ w.cell? ⟨gr, i, none⟩ = some (.slice ao n cap) ∧ n ≤ 1099511627776 ∧
      ∀ k, k < n → ∃ b, ao = some ⟨b, 0, none⟩ ∧ b < w.heap.size ∧ ∀ j, j < size → w.cell? ⟨b, k * size + j, none⟩ = some (pat (i / 4) (k * size + j)) := by
  obtain ⟨vs, hR, hm⟩ := h
  obtain ⟨ro', rc', e1⟩ := row_form hR
  cases e1
  obtain ⟨gr, cap, e2⟩ := row_some hR (by omega)
  cases e2
  have hlen := hR.1.1
  have hv : vs[i]? = some (vs[i]'(by omega)) := List.getElem?_eq_getElem (by omega)
  have hcell := hR.cell hv
  obtain ⟨ao, n, cap, ev, hn, hk⟩ := hm i _ hv
  rw [ev] at hcell
  refine ⟨gr, ao, n, cap, rfl, hR.lt, hcell, hn, fun k hkn => ?_⟩
  rcases hk with h0 | ⟨b, eb, _, hb, hp⟩
  · omega
  · refine ⟨b, eb, hb, fun j hj => hp _ ?_⟩
    calc k * size + j < k * size + size := by omega
      _ = (k + 1) * size := by rw [Nat.add_mul, Nat.one_mul]
      _ ≤ n * size := Nat.mul_le_mul_right _ (by omega)

theorem quart (k : Nat) : ((k / 4 : Nat) : Int) = (k : Int) / 4 := by omega

set_option maxRecDepth 100000 in
set_option maxHeartbeats 4000000 in
theorem wholeT_any (w : World) (T : Nat → Tag) (wb : Nat) (cs : Array Value) (q q' : Nat) (v v' : Value) (hW : Blk w T .world wb cs 33) (hc : cs[9]? = some v) (hc' : cs[10]? = some v')
    (hB : Bk w T 9 74 2 (fun q => patOf (markRV q)) v q) (hD : Bk w T 11 77 3 (fun q => patOf (markDV q)) v' q') (hq : q ≤ 1000000000) (hq' : q' ≤ 1000000000) :
    Calls Tryz.prog 53 #[.pointer (some ⟨wb, 9, none⟩)] w fun e w' => e = .returned (.bool true) ∧ Below w.heap.size w w' := by
  obtain ⟨ro, rc, rfl⟩ : ∃ ro rc, v = .slice ro (4 * q) rc := by
    obtain ⟨_, hR, _⟩ := hB
    exact row_form hR
  obtain ⟨ro', rc', rfl⟩ : ∃ ro rc, v' = .slice ro (4 * q') rc := by
    obtain ⟨_, hR, _⟩ := hD
    exact row_form hR
  have lw := hW.lt
  have cw := hW.cell hc
  have cw' := hW.cell hc'
  clear hW
  go_enter Tryz.func53, Tryz.ntmps53
  go_wp2
  go_loopw [3] (fun i wr => ∃ k : Nat, k ≤ 4 * q ∧ i = .int .i64 k ∧ Below w.heap.size w wr) (fun i _ => 4 * q - (intOf i).toNat)
  case atStart => exact ⟨0, Nat.zero_le _, rfl, Below.refl _ _⟩
  case round =>
    obtain ⟨k, hk, rfl, hb⟩ := hrel
    have c0 := (hb.cell (p := ⟨wb, 9, none⟩) lw).trans cw
    have c1 := (hb.cell (p := ⟨wb, 10, none⟩) lw).trans cw'
    by_cases hlt : k < 4 * q
    · go_wp2_with fail
      clear c0 c1
      have hx := hB.at k hlt
      obtain ⟨gr, ao, n, cap, rfl, hgr, hcell, hn, hls⟩ := hx
      have Hls := hide hls
      clear hls
      go_loopw [4] (fun i wx => ∃ j : Nat, j ≤ n ∧ i = .int .i64 j ∧ Below w.heap.size w wx) (fun i _ => n - (intOf i).toNat)
      case atStart => exact ⟨0, Nat.zero_le _, rfl, hb⟩
      case round =>
        clear hb
        obtain ⟨j, hj, rfl, hb⟩ := hrel
        have c0 := (hb.cell (p := ⟨wb, 9, none⟩) lw).trans cw
        have c2 := (hb.cell (p := ⟨gr, k, none⟩) hgr).trans hcell
        have hz := hb.size
        have hgr2 : gr < wr.heap.size := by omega
        have hbk2 : wb < wr.heap.size := by omega
        by_cases hjn : j < n
        · obtain ⟨b, rfl, hbl, hd⟩ := Hls.out j hjn
          have d0 := hd 0 (by decide)
          have d1 := hd 1 (by decide)
          rw [show j * 2 + 0 = j * (markRV (k / 4)).length + 0 from rfl, patOf_shift] at d0
          rw [show patOf (markRV (k / 4)) (j * 2 + 1) = patOf (markRV (k / 4)) 1 from patOf_shift (markRV (k / 4)) j 1] at d1
          have e0 : wr.cell? ⟨b, j * 2, none⟩ = some (.int .i64 (-1000 - (k : Int) / 4)) := by
            rw [hb.cell (p := ⟨b, j * 2, none⟩) hbl, ← quart]; exact d0
          have e1 : wr.cell? ⟨b, j * 2 + 1, none⟩ = some (.int .i64 7) := (hb.cell (p := ⟨b, j * 2 + 1, none⟩) hbl).trans d1
          have hb2 : b < wr.heap.size := by omega
          clear hd d0 d1
          go_wp2_with fail
          refine wp_region_over (by kernel_rfl) (by kernel_rfl) ?_
          repeat (go_big_quiet_step ((go_at_call 86; exact quiet_over (fun w1 => (markR_any _ w1 (by omega) (by omega)).mono (fun _ _ h => ⟨h.1, h.2.1⟩)))))
          refine wpQuiet_nil ?_
          rintro _ ⟨x, rfl⟩
          have hov := hb.trans ((over_below wr x).mono hb.size)
          go_wp2
          go_roundw
          case rel => exact ⟨j + 1, by omega, by go_num, hov⟩
          case measure => simp [intOf]; omega
        · go_wp2
          go_roundw
          case rel => exact ⟨k + 1, by omega, by go_num, hb⟩
          case measure => simp [intOf]; omega
    · go_wp2_with fail
      clear c0 c1
      go_loopw [5] (fun i wr => ∃ k : Nat, k ≤ 4 * q' ∧ i = .int .i64 k ∧ Below w.heap.size w wr) (fun i _ => 4 * q' - (intOf i).toNat)
      case atStart => exact ⟨0, Nat.zero_le _, rfl, hb⟩
      case round =>
        clear hb hk hlt
        obtain ⟨k, hk, rfl, hb⟩ := hrel
        have c1 := (hb.cell (p := ⟨wb, 10, none⟩) lw).trans cw'
        by_cases hlt : k < 4 * q'
        · go_wp2_with fail
          clear c1
          have hx := hD.at k hlt
          obtain ⟨gr, ao, n, cap, rfl, hgr, hcell, hn, hls⟩ := hx
          have Hls := hide hls
          clear hls
          go_loopw [6] (fun i wx => ∃ j : Nat, j ≤ n ∧ i = .int .i64 j ∧ Below w.heap.size w wx) (fun i _ => n - (intOf i).toNat)
          case atStart => exact ⟨0, Nat.zero_le _, rfl, hb⟩
          case round =>
            clear hb
            obtain ⟨j, hj, rfl, hb⟩ := hrel
            have c1 := (hb.cell (p := ⟨wb, 10, none⟩) lw).trans cw'
            have c2 := (hb.cell (p := ⟨gr, k, none⟩) hgr).trans hcell
            have hz := hb.size
            have hgr2 : gr < wr.heap.size := by omega
            have hbk2 : wb < wr.heap.size := by omega
            by_cases hjn : j < n
            · obtain ⟨b, rfl, hbl, hd⟩ := Hls.out j hjn
              have d0 := hd 0 (by decide)
              have d1 := hd 1 (by decide)
              have d2 := hd 2 (by decide)
              rw [show j * 3 + 0 = j * (markDV (k / 4)).length + 0 from rfl, patOf_shift] at d0
              rw [show patOf (markDV (k / 4)) (j * 3 + 1) = patOf (markDV (k / 4)) 1 from patOf_shift (markDV (k / 4)) j 1] at d1
              rw [show patOf (markDV (k / 4)) (j * 3 + 2) = patOf (markDV (k / 4)) 2 from patOf_shift (markDV (k / 4)) j 2] at d2
              have e0 : wr.cell? ⟨b, j * 3, none⟩ = some (.int .i64 (-1000 - (k : Int) / 4)) := by
                rw [hb.cell (p := ⟨b, j * 3, none⟩) hbl, ← quart]; exact d0
              have e1 : wr.cell? ⟨b, j * 3 + 1, none⟩ = some (.int .i64 0) := (hb.cell (p := ⟨b, j * 3 + 1, none⟩) hbl).trans d1
              have e2 : wr.cell? ⟨b, j * 3 + 2, none⟩ = some (.string callers) := (hb.cell (p := ⟨b, j * 3 + 2, none⟩) hbl).trans d2
              have hb2 : b < wr.heap.size := by omega
              clear hd d0 d1 d2
              go_wp2_with fail
              refine wp_region_over (by kernel_rfl) (by kernel_rfl) ?_
              repeat (go_big_quiet_step ((go_at_call 87; exact quiet_over (fun w1 => (markD_any _ w1 (by omega) (by omega)).mono (fun _ _ h => ⟨h.1, h.2.1⟩)))))
              refine wpQuiet_nil ?_
              rintro _ ⟨x, rfl⟩
              have hov := hb.trans ((over_below wr x).mono hb.size)
              go_wp2
              go_roundw
              case rel => exact ⟨j + 1, by omega, by go_num, hov⟩
              case measure => simp [intOf]; omega
            · go_wp2
              go_roundw
              case rel => exact ⟨k + 1, by omega, by go_num, hb⟩
              case measure => simp [intOf]; omega
        · go_wp2
          go_ret
          exact ⟨rfl, hb⟩

end Go.Proofs.YtockkceclkcgbaaGreatDoor

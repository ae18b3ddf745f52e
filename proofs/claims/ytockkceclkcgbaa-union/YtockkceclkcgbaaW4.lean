/- The contract of ranges.Add over a list of ranges that lies in memory: what it answers, in new memory of its own. -/
import Derived.Test.YtockkceclkcgbaaW3
namespace Go.Proofs.Ytockkceclkcgbaa
open Go.RowKit

attribute [local go_sem] over_cell

def mergeTo : RL → Int → Int → RL
  | [], a, b => [(a, b)]
  | r :: t, a, b => if b + 1 < r.1 then (a, b) :: r :: t else mergeTo t (min a r.1) (max b r.2)
def addTo : RL → Int → Int → RL
  | [], a, b => [(a, b)]
  | r :: t, a, b => if r.2 + 1 < a then r :: addTo t a b else mergeTo (r :: t) a b
def flat (L : RL) : List Value := L.flatMap fun r => [.int .i64 r.1, .int .i64 r.2]

theorem flat_append (A B : RL) : flat (A ++ B) = flat A ++ flat B := by simp [flat]
theorem flat_one (x y : Int) : flat [(x, y)] = [.int .i64 x, .int .i64 y] := rfl
theorem flat_length (L : RL) : (flat L).length = L.length * 2 := by
  induction L with
  | nil => rfl
  | cons r t ih => show (flat t).length + 1 + 1 = _; rw [ih]; simp; omega
theorem flat_get : ∀ (L : RL) (q : Nat), q < L.length → (flat L)[q * 2]? = some (.int .i64 (lo L q)) ∧ (flat L)[q * 2 + 1]? = some (.int .i64 (hi L q))
  | [], q, h => by simp at h
  | r :: t, 0, _ => ⟨rfl, rfl⟩
  | r :: t, q + 1, h => by
    have ih := flat_get t q (by simpa using h)
    have e1 : (q + 1) * 2 = q * 2 + 1 + 1 := by omega
    have e2 : flat (r :: t) = .int .i64 r.1 :: .int .i64 r.2 :: flat t := rfl
    rw [e1, e2]
    simpa [lo, hi] using ih
theorem flat_oneCell (L : RL) : ∀ u ∈ flat L, u.oneCell' = true := by
  intro u hu
  simp only [flat, List.mem_flatMap, List.mem_cons, List.not_mem_nil, or_false] at hu
  obtain ⟨r, _, rfl | rfl⟩ := hu <;> rfl
theorem lo_drop (rs : RL) (i q : Nat) : lo (rs.drop i) q = lo rs (i + q) := by simp [lo, List.getD]
theorem hi_drop (rs : RL) (i q : Nat) : hi (rs.drop i) q = hi rs (i + q) := by simp [hi, List.getD]
theorem cells_drop {w : World} {b off cap i : Nat} {rs : RL} (hc : Cells w b off rs) (hlc : rs.length ≤ cap) {ao : Option Addr} (hao : ¬ cap = i → ao = some ⟨b, off + i * 2, none⟩) :
    ∀ ad, ao = some ad → ∀ t u, (flat (rs.drop i))[t]? = some u → w.cell? (ad.add t) = some u := by
  intro ad had t u hu
  have ht : t < (rs.length - i) * 2 := by
    have := (List.getElem?_eq_some_iff.1 hu).1
    simpa [flat_length] using this
  rw [hao (by omega)] at had
  obtain rfl := Option.some.inj had
  rw [Addr.add_lit]
  have hq : t / 2 < (rs.drop i).length := by simp; omega
  have hf := flat_get (rs.drop i) (t / 2) hq
  have hcc := hc.2 (i + t / 2) (by omega)
  rw [lo_drop, hi_drop] at hf
  rcases Nat.mod_two_eq_zero_or_one t with h0 | h1
  · have e : t / 2 * 2 = t := by omega
    rw [e, hu] at hf
    rw [show off + i * 2 + t = off + (i + t / 2) * 2 by omega, hcc.1]
    exact hf.1.symm
  · have e : t / 2 * 2 + 1 = t := by omega
    rw [e, hu] at hf
    rw [show off + i * 2 + t = off + (i + t / 2) * 2 + 1 by omega, hcc.2]
    exact hf.2.symm

theorem take_one (rs : RL) (k : Nat) (h : k < rs.length) : rs.take (k + 1) = rs.take k ++ [(lo rs k, hi rs k)] := by
  have e : (lo rs k, hi rs k) = rs[k] := by simp [lo, hi, List.getD, h]
  rw [e]; exact List.take_succ_eq_append_getElem h

theorem addTo_split (a b : Int) : ∀ (rs : RL) (k : Nat), (∀ j, j < k → apartB (hi rs j) a = true) → (k = rs.length ∨ (k < rs.length ∧ apartB (hi rs k) a = false)) →
    addTo rs a b = rs.take k ++ mergeTo (rs.drop k) a b
  | [], k, _, h => by
    have : k = 0 := by simpa using h
    subst this; simp [addTo, mergeTo]
  | r :: t, 0, _, h => by
    have : apartB r.2 a = false := by simpa [hi] using h
    have h2 : ¬ r.2 + 1 < a := by simpa [apartB] using this
    simp only [addTo, if_neg h2, List.take_zero, List.drop_zero, List.nil_append]
  | r :: t, k + 1, hp, h => by
    have h0 : r.2 + 1 < a := by simpa [hi, apartB] using hp 0 (by omega)
    have ih := addTo_split a b t k (fun j hj => by simpa [hi] using hp (j + 1) (by omega)) (by simpa [hi] using h)
    simp only [addTo, if_pos h0, List.take_succ_cons, List.drop_succ_cons, List.cons_append, ih]

theorem drop_at (rs : RL) (k : Nat) (h : k < rs.length) : rs.drop k = (lo rs k, hi rs k) :: rs.drop (k + 1) := by
  have e : (lo rs k, hi rs k) = rs[k] := by simp [lo, hi, List.getD, h]
  rw [e]; exact List.drop_eq_getElem_cons h

theorem merge_step {rs : RL} {k : Nat} {a b : Int} (h : k < rs.length) (hap : apartB b (lo rs k) = false) :
    mergeTo (rs.drop k) a b = mergeTo (rs.drop (k + 1)) (min a (lo rs k)) (max b (hi rs k)) := by
  have h2 : ¬ b + 1 < lo rs k := by simpa [apartB] using hap
  rw [drop_at rs k h, mergeTo, if_neg h2]

theorem merge_end {rs : RL} {k : Nat} {a b : Int} (h : k = rs.length ∨ (k < rs.length ∧ apartB b (lo rs k) = true)) : mergeTo (rs.drop k) a b = (a, b) :: rs.drop k := by
  rcases h with rfl | ⟨h, hap⟩
  · simp [mergeTo]
  · have h2 : b + 1 < lo rs k := by simpa [apartB] using hap
    rw [drop_at rs k h, mergeTo, if_pos h2]

theorem grown_of_below {w w' : World} (h : Below w.heap.size w w') : w.grownBy w' none := ⟨h.os, h.tape, h.output, h.size, fun k hk _ => h.block k hk⟩

/-- What stands in the call's own memory while Add works: the range r in its box, and the row that is being built. -/
structure Inv (w : World) (g cap n : Nat) (xs : RL) (a b : Int) (wr : World) : Prop where
  own : wr.ownsRow (w.heap.size + 1) 31 2 (.slice (some ⟨g, 0, none⟩) n cap) n (flat xs)
  box : wr.heap[w.heap.size]? = some (.cells #[.int .i64 a, .int .i64 b] 31 (0, 0))
  bel : Below w.heap.size w wr

theorem Inv.lt {w : World} {g cap n : Nat} {xs : RL} {a b : Int} {wr : World} (h : Inv w g cap n xs a b wr) : w.heap.size < g ∧ g < wr.heap.size := by
  have := h.own.lt g rfl; omega

theorem Inv.on {w : World} {g cap n : Nat} {xs : RL} {a b : Int} {wr wr' : World} (h : Inv w g cap n xs a b wr) (hb : Below wr.heap.size wr wr') : Inv w g cap n xs a b wr' :=
  ⟨h.own.kept (grown_of_below hb) (.inr (by simp [Value.ownBlock])), by have := h.lt; rw [hb.block _ (by omega)]; exact h.box, h.bel.trans (hb.mono h.bel.size)⟩

theorem Inv.cell0 {w : World} {g cap n : Nat} {xs : RL} {a b : Int} {wr : World} (h : Inv w g cap n xs a b wr) : wr.cell? ⟨w.heap.size, 0, none⟩ = some (.int .i64 a) := by simp [World.cell?, h.box]
theorem Inv.cell1 {w : World} {g cap n : Nat} {xs : RL} {a b : Int} {wr : World} (h : Inv w g cap n xs a b wr) : wr.cell? ⟨w.heap.size, 1, none⟩ = some (.int .i64 b) := by simp [World.cell?, h.box]

theorem Inv.free {w : World} {g cap n : Nat} {xs : RL} {a b : Int} {wr : World} (h : Inv w g cap n xs a b wr) (o : Nat) : wr.frozen? ⟨w.heap.size, o, none⟩ = false := by
  simp [World.frozen?, h.box]

theorem box_set {w : World} {B : Nat} {v0 v1 u0 u1 : Value} (h : w.heap[B]? = some (.cells #[v0, v1] 31 (0, 0))) :
    ((w.setCell ⟨B, 0, none⟩ u0).setCell ⟨B, 1, none⟩ u1).heap[B]? = some (.cells #[u0, u1] 31 (0, 0)) := by
  simp [World.setCell, Array.getElem?_modify, h]

theorem Inv.stored {w : World} {g cap n : Nat} {xs : RL} {a b : Int} {wr : World} (h : Inv w g cap n xs a b wr) (a' b' : Int) :
    Inv w g cap n xs a' b' ((wr.setCell ⟨w.heap.size, 0, none⟩ (.int .i64 a')).setCell ⟨w.heap.size, 1, none⟩ (.int .i64 b')) :=
  ⟨ownsRow_setCell_below (ownsRow_setCell_below h.own (by simp) _) (by simp) _, box_set h.box, (h.bel.setCell (by simp) _).setCell (by simp) _⟩

theorem Inv.more {w : World} {g cap n m : Nat} {xs ys : RL} {a b : Int} {wr wr' : World} (h : Inv w g cap n xs a b wr)
    (hown : wr'.ownsRow (w.heap.size + 1) 31 2 (.slice (some ⟨g, 0, none⟩) (n + m) cap) (n + m) (flat xs ++ flat ys)) (hg : wr.grownBy wr' (some g)) : Inv w g cap (n + m) (xs ++ ys) a b wr' := by
  have := h.lt
  refine ⟨by rw [flat_append]; exact hown, ?_, h.bel.grown hg h.bel.size (fun k e => by cases e; omega)⟩
  rw [hg.block _ (by omega) (by simp; omega)]; exact h.box

theorem ownsRow_base {w : World} {B B' : Nat} {e : TypeId} {size : Nat} {v : Value} {n : Nat} {xs : List Value} (h : w.ownsRow B e size v n xs) (hB : B' ≤ B) : w.ownsRow B' e size v n xs := by
  obtain ⟨h1, h2⟩ := h
  refine ⟨h1, ?_⟩
  rcases h2 with h2 | ⟨g, cap, cur, hv, hg, hr⟩
  · exact .inl h2
  · exact .inr ⟨g, cap, cur, hv, Nat.le_trans hB hg, hr⟩

theorem add_end {w : World} {g cap k m : Nat} {xs ys L : RL} {a b : Int} {w6 w7 : World} (hI : Inv w g cap k xs a b w6)
    (hown : w7.ownsRow (w.heap.size + 1) 31 2 (.slice (some ⟨g, 0, none⟩) (k + m) cap) (k + m) (flat xs ++ flat ys)) (hg : w6.grownBy w7 (some g)) (hL : Hid (L = xs ++ ys)) :
    k + m = L.length ∧ w7.ownsRow w.heap.size 31 2 (.slice (some ⟨g, 0, none⟩) L.length cap) L.length (flat L) ∧ Below w.heap.size w w7 := by
  have hlen : k + m = L.length := by
    have h1 := hown.1
    rw [← flat_append, flat_length, ← hL.out] at h1
    omega
  have hI7 := hI.more hown hg
  refine ⟨hlen, ?_, hI7.bel⟩
  have h2 := ownsRow_base hI7.own (Nat.le_succ _)
  rw [hlen, ← hL.out] at h2
  exact h2

theorem Try.info31 : (Try.prog.info? 31).map (fun i => (i.zero, i.size, i.bytes)) = some (some (.agg #[.int .i64 0, .int .i64 0]), 2, 16) := by kernel_rfl

set_option maxHeartbeats 400000 in
theorem add_no (rs : RL) (a b : Int) (bl off cap : Nat) (w : World) (hc : Cells w bl off rs) (hlen : rs.length ≤ 140737488355328) (h : (setB rs && isR a b) = false) :
    Calls Try.prog 14 #[.slice (some ⟨bl, off, none⟩) rs.length cap, .agg #[.int .i64 a, .int .i64 b]] w fun e w' =>
      e = .returned (.tuple #[.slice none 0 0, .int .i64 11]) ∧ Below w.heap.size w w' := by
  have hbl := hc.1
  have hbw : Below w.heap.size w (w.alloc (.cells #[.int .i64 a, .int .i64 b] 31)) := (Below.refl _ _).alloc (Nat.le_refl _) _
  have hc2 := hc.below hbw hc.1
  go_enter Try.func14, Try.ntmps14
  go_wp2_with fail
  refine (isSet_cells rs bl off cap _ hc2 hlen).mono ?_
  rintro e w0 ⟨rfl, hb0⟩
  have hb1 : Below w.heap.size w w0 := hbw.trans (hb0.mono (by simp))
  have hcl : ∀ o, w0.cell? ⟨w.heap.size, o, none⟩ = (w.alloc (.cells #[.int .i64 a, .int .i64 b] 31)).cell? ⟨w.heap.size, o, none⟩ := fun o => hb0.cell (p := ⟨w.heap.size, o, none⟩) (by simp)
  cases hs : setB rs
  · go_wp2
    go_ret2
    exact ⟨rfl, hb1⟩
  · rw [hs, Bool.true_and] at h
    go_wp2_with fail
    refine (isRange_any _ _ _).mono ?_
    rintro e w1 ⟨rfl, hb2⟩
    go_wp2
    go_ret2
    exact ⟨rfl, hb1.trans (hb2.mono hb1.size)⟩

set_option maxRecDepth 100000 in
set_option maxHeartbeats 1000000 in
theorem add_yes (rs : RL) (a b : Int) (bl off cap : Nat) (w : World) (hc : Cells w bl off rs) (hlen : rs.length ≤ 8796093022208) (hcap : rs.length ≤ cap) (hs : setB rs = true) (hr : isR a b = true) :
    Calls Try.prog 14 #[.slice (some ⟨bl, off, none⟩) rs.length cap, .agg #[.int .i64 a, .int .i64 b]] w fun e w' => ∃ g,
      e = .returned (.tuple #[.slice (some ⟨g, 0, none⟩) (addTo rs a b).length (rs.length + 1), .int .i64 0]) ∧
      w'.ownsRow w.heap.size 31 2 (.slice (some ⟨g, 0, none⟩) (addTo rs a b).length (rs.length + 1)) (addTo rs a b).length (flat (addTo rs a b)) ∧ Below w.heap.size w w' := by
  have hbl := hc.1
  have hbw : Below w.heap.size w (w.alloc (.cells #[.int .i64 a, .int .i64 b] 31)) := (Below.refl _ _).alloc (Nat.le_refl _) _
  have hc2 := hc.below hbw hc.1
  obtain ⟨i0, hi0, hz0, hz1, hz2⟩ := info_parts Try.info31
  go_enter Try.func14, Try.ntmps14
  go_wp2_with fail
  refine (isSet_cells rs bl off cap _ hc2 (by omega)).mono ?_
  rintro e w0 ⟨rfl, hb0⟩
  rw [hs]
  have hcl : ∀ o, w0.cell? ⟨w.heap.size, o, none⟩ = (w.alloc (.cells #[.int .i64 a, .int .i64 b] 31)).cell? ⟨w.heap.size, o, none⟩ := fun o => hb0.cell (p := ⟨w.heap.size, o, none⟩) (by simp)
  have hz : w.heap.size < w0.heap.size := by have := hb0.size; simp at this; omega
  go_wp2_with fail
  refine (isRange_any _ _ _).mono ?_
  rintro e w1 ⟨rfl, hb1⟩
  rw [hr]
  have hz' : w.heap.size < w1.heap.size := by have := hb1.size; omega
  go_wp2_with (at_make; refine wpList_make_own _ rfl _ _ 22 rfl (w.heap.size + 1) 31 i0 _ 2 Try.underlying22 hi0 hz0 hz1 _ _ _ (rs.length + 1) rfl rfl (by omega) (by rw [hz2]; omega) (by unfold maxLen; omega) (by omega) ?_)
  intro w2 hown0 hgrow0
  have hw1 : Below w.heap.size w w1 := (hbw.trans (hb0.mono (by simp))).trans (hb1.mono (by omega))
  have hI0 : Inv w w1.heap.size (rs.length + 1) 0 [] a b w2 := by
    refine ⟨hown0, ?_, hw1.grown hgrow0 hw1.size (fun k h => by cases h)⟩
    rw [hgrow0.block _ (by omega) (by simp), hb1.block _ hz, hb0.block _ (by simp)]
    exact heap_alloc_new w _
  clear hown0 hgrow0 hb1 hb0 hcl hw1 hc2 hbw
  generalize w1.heap.size = g at *
  clear w0 w1 hz hz'
  go_wp2
  go_loopw [6, 7] (fun out i wr => ∃ k : Nat, k ≤ rs.length ∧ i = .int .i64 k ∧ out = .slice (some ⟨g, 0, none⟩) k (rs.length + 1) ∧ Inv w g (rs.length + 1) k (rs.take k) a b wr ∧ Hid (∀ j, j < k → apartB (hi rs j) a = true)) (fun _ i _ => rs.length - (intOf i).toNat)
  case atStart => exact ⟨0, Nat.zero_le _, rfl, rfl, by simpa using hI0, fun j hj => by omega⟩
  case round =>
    obtain ⟨k, hk, rfl, rfl, hI, hg⟩ := hrel
    have hlt0 := hI.lt
    have hb1 : bl < wr.heap.size := by omega
    have hwr : w.heap.size < wr.heap.size := by omega
    have hr0 := hI.cell0
    have hr1 := hI.cell1
    by_cases hgo : k < rs.length ∧ apartB (hi rs k) a = true
    · obtain ⟨hlt, hap⟩ := hgo
      have hcr := hc.below hI.bel hbl
      have hc0 := (hcr.2 k hlt).1
      have hc1 := (hcr.2 k hlt).2
      have hbd := isR_hi (goodAt_isR ((setB_iff rs).1 hs k hlt))
      clear hcr
      go_wp2_with fail
      refine wp_region_over (by kernel_rfl) (by kernel_rfl) ?_
      repeat (go_big_quiet_step ((go_at_call 24; exact quiet_over (fun w1 => apart_any _ _ _ _ w1 (by omega) (by omega)))))
      refine wpQuiet_nil ?_
      rintro _ ⟨x, rfl⟩
      have hov := over_below wr x
      have hI2 := hI.on hov
      go_wp2_with (at_builtin; refine wpList_append_fits _ rfl (.tmp 32) (.tmp 37) 22 rfl (w.heap.size + 1) 31 i0 2 Try.underlying22 hi0 hz1 g k (rs.length + 1) _ rfl (hI2.own.alloc _) ⟨(over wr x).heap.size, 0, none⟩ 1 1 (flat [(lo rs k, hi rs k)]) rfl rfl (by intro t u ht; match t, ht with | 0, ht => simp [flat] at ht; subst ht; simp [Addr.add] | 1, ht => simp [flat] at ht; subst ht; simp [Addr.add]) (by intro u hu; simp [flat] at hu; rcases hu with rfl | rfl <;> rfl) (by omega) ?_; intro w1 hown1 hgrow1)
      go_roundw
      case rel =>
        have hI3 := (hI2.on ((Below.refl _ _).alloc (Nat.le_refl _) _)).more hown1 hgrow1
        exact ⟨k + 1, by omega, by go_num, rfl, by rw [take_one rs k hlt]; exact hI3, fun j hj => by
          rcases Nat.lt_succ_iff_lt_or_eq.1 hj with h1 | rfl
          · exact hg.out j h1
          · exact hap⟩
      case measure => simp [intOf]; omega
    · have hend : k = rs.length ∨ (k < rs.length ∧ apartB (hi rs k) a = false) := by
        rcases Nat.lt_or_ge k rs.length with h | h
        · right; refine ⟨h, ?_⟩
          cases hap : apartB (hi rs k) a
          · rfl
          · exact absurd ⟨h, hap⟩ hgo
        · left; omega
      have hfin : Hid (addTo rs a b = rs.take k ++ mergeTo (rs.drop k) a b) := addTo_split a b rs k hg.out hend
      clear hgo hg
      rcases hend with hke | ⟨hlt, hap⟩
      case' inl =>
        have hd : decide (k < rs.length) = false := by simp; omega
        clear hke
        go_wp2_with fail
        refine wp_region_over (by kernel_rfl) (by kernel_rfl) ?_
        repeat (go_big_quiet_step (fail))
        refine wpQuiet_nil ?_
        rintro _ ⟨x, rfl⟩
        have hI2 := hI.on (over_below wr x)
        clear hd
        go_wp2_with fail
      case' inr =>
        have hcr := hc.below hI.bel hbl
        have hc0 := (hcr.2 k hlt).1
        have hc1 := (hcr.2 k hlt).2
        have hbd := isR_hi (goodAt_isR ((setB_iff rs).1 hs k hlt))
        clear hcr
        go_wp2_with fail
        refine wp_region_over (by kernel_rfl) (by kernel_rfl) ?_
        repeat (go_big_quiet_step ((go_at_call 24; exact quiet_over (fun w1 => apart_any _ _ _ _ w1 (by omega) (by omega)))))
        refine wpQuiet_nil ?_
        rintro _ ⟨x, rfl⟩
        have hI2 := hI.on (over_below wr x)
        clear hc0 hc1 hbd hlt
        go_wp2_with fail
        clear hap
      all_goals
        generalize over wr x = wq at *
        clear hI hr0 hr1 hwr hb1 hlt0
        have hab := isR_hi hr
        go_loopw [7] (fun i wr => ∃ (k2 : Nat) (a' b' : Int), k ≤ k2 ∧ k2 ≤ rs.length ∧ i = .int .i64 k2 ∧ Inv w g (rs.length + 1) k (rs.take k) a' b' wr ∧ 0 ≤ a' ∧ a' ≤ b' ∧ b' ≤ 1099511627776 ∧ Hid (addTo rs a b = rs.take k ++ mergeTo (rs.drop k2) a' b')) (fun i _ => rs.length - (intOf i).toNat)
        case atStart => exact ⟨k, a, b, Nat.le_refl _, hk, rfl, hI2, hab.1, hab.2.1, hab.2.2, hfin⟩
        case round =>
          clear hI2 hfin hab
          obtain ⟨k2, a', b', hkk, hk2, rfl, hI, ha0, ha1, ha2, hfin⟩ := hrel
          have hlt0 := hI.lt
          have hb1 : bl < wr.heap.size := by omega
          have hwr : w.heap.size < wr.heap.size := by omega
          have hr0 := hI.cell0
          have hr1 := hI.cell1
          by_cases hgo : k2 < rs.length ∧ apartB b' (lo rs k2) = false
          · obtain ⟨hlt, hap⟩ := hgo
            have hcr := hc.below hI.bel hbl
            have hc0 := (hcr.2 k2 hlt).1
            have hc1 := (hcr.2 k2 hlt).2
            have hbd := isR_hi (goodAt_isR ((setB_iff rs).1 hs k2 hlt))
            clear hcr
            go_wp2_with fail
            refine wp_region_over (by kernel_rfl) (by kernel_rfl) ?_
            repeat (go_big_quiet_step ((go_at_call 24; exact quiet_over (fun w1 => apart_any _ _ _ _ w1 (by omega) (by omega)))))
            refine wpQuiet_nil ?_
            rintro _ ⟨x, rfl⟩
            have hI2 := hI.on (over_below wr x)
            go_wp2_with fail
            generalize over wr x = w5 at *
            have hlt5 := hI2.lt
            have hb5 : bl < w5.heap.size := by omega
            have hw5 : w.heap.size < w5.heap.size := by omega
            have q0 := hI2.cell0
            have q1 := hI2.cell1
            have hcr := hc.below hI2.bel hbl
            have q2 := (hcr.2 k2 hlt).1
            have q3 := (hcr.2 k2 hlt).2
            clear hcr hc0 hc1 hr0 hr1 hb1 hwr
            go_region_with (first | (go_at_call 25; refine (span_any _ _ _ _ _).mono ?_; rintro e w6 ⟨rfl, hb6⟩; have hI6 := (hI2.on (Below.refl _ _).drew).on hb6; have q4 := hI6.cell0; have q5 := hI6.cell1; have q6 := hI6.free 0; have q7 := hI6.free 1))
            all_goals
              go_wp2
              go_roundw
              case rel => exact ⟨k2 + 1, min a' (lo rs k2), max b' (hi rs k2), by omega, by omega, by go_num, hI6.stored _ _, by omega, by omega, by omega, by rw [← merge_step hlt hap]; exact hfin⟩
              case measure => simp [intOf]; omega
          · have hend : k2 = rs.length ∨ (k2 < rs.length ∧ apartB b' (lo rs k2) = true) := by
              rcases Nat.lt_or_ge k2 rs.length with h | h
              · right; refine ⟨h, ?_⟩
                cases hap : apartB b' (lo rs k2)
                · exact absurd ⟨h, hap⟩ hgo
                · rfl
              · left; omega
            have hfin2 : Hid (addTo rs a b = rs.take k ++ [(a', b')] ++ rs.drop k2) := by
              show addTo rs a b = _
              rw [hfin.out, merge_end hend]; simp
            clear hgo hfin
            rcases hend with hke | ⟨hlt, hap⟩
            case' inl =>
              have hd : decide (k2 < rs.length) = false := by simp; omega
              clear hke
              go_wp2_with fail
              refine wp_region_over (by kernel_rfl) (by kernel_rfl) ?_
              repeat (go_big_quiet_step (fail))
              refine wpQuiet_nil ?_
              rintro _ ⟨x, rfl⟩
              have hI2 := hI.on (over_below wr x)
              clear hd
            case' inr =>
              have hcr := hc.below hI.bel hbl
              have hc0 := (hcr.2 k2 hlt).1
              have hc1 := (hcr.2 k2 hlt).2
              clear hcr
              go_wp2_with fail
              refine wp_region_over (by kernel_rfl) (by kernel_rfl) ?_
              repeat (go_big_quiet_step ((go_at_call 24; exact quiet_over (fun w1 => apart_any _ _ _ _ w1 (by omega) (by omega)))))
              refine wpQuiet_nil ?_
              rintro _ ⟨x, rfl⟩
              have hI2 := hI.on (over_below wr x)
              clear hc0 hc1 hlt
            all_goals
              generalize over wr x = w5 at *
              clear hI hr0 hr1 hwr hb1 hlt0
              have q0 := hI2.cell0
              have q1 := hI2.cell1
              go_wp2_with (first | (at_builtin; refine wpList_append_fits _ rfl (.tmp 62) (.tmp 64) 22 rfl (w.heap.size + 1) 31 i0 2 Try.underlying22 hi0 hz1 g k (rs.length + 1) _ rfl (hI2.own.alloc _) ⟨w5.heap.size, 0, none⟩ 1 1 (flat [(a', b')]) rfl rfl (by intro t u ht; match t, ht with | 0, ht => simp [flat] at ht; subst ht; simp [Addr.add] | 1, ht => simp [flat] at ht; subst ht; simp [Addr.add]) (by intro u hu; simp [flat] at hu; rcases hu with rfl | rfl <;> rfl) (by omega) ?_; intro w6 hown1 hgrow1; have hI6 := (hI2.on ((Below.refl _ _).alloc (Nat.le_refl _) _)).more hown1 hgrow1; have hc6 := hc.below hI6.bel hbl) | (at_builtin; refine wpList_append_fits_any _ rfl (.tmp 66) (.tmp 69) 22 rfl (w.heap.size + 1) 31 i0 2 Try.underlying22 hi0 hz1 g (k + 1) (rs.length + 1) _ rfl hown1 _ (rs.length - k2) _ (flat (rs.drop k2)) rfl (by simp [flat_length]) (by intro h; first | cases h | (split at h <;> cases h)) (cells_drop hc6 hcap (by intro h; first | rfl | simp [h])) (flat_oneCell _) (by omega) ?_; intro w7 hown2 hgrow2))
              all_goals
                go_ret2
                obtain ⟨e1, e2, e3⟩ := add_end hI6 (by rw [flat_append]; exact hown2) hgrow2 hfin2
                refine ⟨g, ?_, e2, e3⟩
                rw [← e1]; rfl

end Go.Proofs.Ytockkceclkcgbaa

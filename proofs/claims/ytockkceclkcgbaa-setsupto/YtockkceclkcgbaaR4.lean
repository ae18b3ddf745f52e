/- The built-in copy at a row of the call's own, for elements of any size; the contract of the law's helper lent. -/
import Derived.Test.YtockkceclkcgbaaR3
namespace Go.Proofs.Ytockkceclkcgbaa
open Go.RowKit

attribute [local go_sem] over_cell

theorem run_copy_head {P : Program} (w : World) (dT sT ty elem : TypeId) (i : TypeInfo) (hu : P.underlying dT = some (.slice elem)) (hi : P.info? elem = some i)
    (g dLen dCap : Nat) (ao : Option Addr) (sLen sCap : Nat) (cur : Array Value) (t : TypeId) (hg : w.heap[g]? = some (.cells cur t (0, 0))) (cs : List Value) (hle : sLen ≤ dLen) (hn : cs.length = sLen * i.size)
    (hnone : ao = none → cs = []) (hsrc : ∀ ad, ao = some ad → ∀ j v, cs[j]? = some v → w.cell? (ad.add j) = some v) (hfit : cs.length ≤ cur.size) (h1 : ∀ v ∈ cs, v.oneCell' = true) :
    (Builtin.copy_ #[dT, sT] ty #[.slice (some ⟨g, 0, none⟩) dLen dCap, .slice ao sLen sCap]).run P w = .ok (goInt sLen) (w.setRow g (cs ++ cur.toList.drop cs.length).toArray) := by
  have hm : Nat.min sLen dLen = sLen := Nat.min_eq_left hle
  have hst := run_storeCells_at P g 0 t cs 0 cur w hg (by simpa using hfit) h1
  simp only [Nat.zero_add, List.take_zero, List.nil_append] at hst
  cases ao with
  | none =>
    have hf := run_firstCells_none (P := P) w i.size sLen sLen sCap
    obtain rfl := hnone rfl
    simp [Builtin.copy_, run_underlying hu, Builtin.lenOf, sizeOf, typeInfo, hi, hm, hf, hst]
  | some ad =>
    have hf := run_firstCells_some (P := P) w i.size sLen ad sLen sCap cs hn (hsrc ad rfl)
    simp [Builtin.copy_, run_underlying hu, Builtin.lenOf, sizeOf, typeInfo, hi, hm, hf, hst]

theorem wpList_copy_head {P : Program} {w : World} {ops : Array Oper} {rest : List Oper} {o : Oper} {a : Act} {Q : Exit → Act → World → Prop} (hgd : o.guard = none) (d s : Operand) (dT sT : TypeId)
    (ho : o.op = .call { callee := .builtin .copy, args := #[d, s], argTypes := #[dT, sT] }) (elem : TypeId) (i : TypeInfo) (hu : P.underlying dT = some (.slice elem)) (hi : P.info? elem = some i)
    (g dLen dCap : Nat) (ao : Option Addr) (sLen sCap : Nat) (hd : a.eval d = .slice (some ⟨g, 0, none⟩) dLen dCap) (hs : a.eval s = .slice ao sLen sCap)
    (cur : Array Value) (t : TypeId) (hg : w.heap[g]? = some (.cells cur t (0, 0))) (cs : List Value) (hle : sLen ≤ dLen) (hn : cs.length = sLen * i.size)
    (hnone : ao = none → cs = []) (hsrc : ∀ ad, ao = some ad → ∀ j v, cs[j]? = some v → w.cell? (ad.add j) = some v) (hfit : cs.length ≤ cur.size) (h1 : ∀ v ∈ cs, v.oneCell' = true)
    (h : ∀ w', w'.heap[g]? = some (.cells (cs ++ cur.toList.drop cs.length).toArray t (0, 0)) → w.grownBy w' (some g) → wpList P ops Q rest (a.put o.dst (goInt sLen)) w') : wpList P ops Q (o :: rest) a w := by
  refine wpList_plain hgd fun K hK => ?_
  have hrun := run_copy_head (P := P) w dT sT o.type elem i hu hi g dLen dCap ao sLen sCap cur t hg cs hle hn hnone hsrc hfit h1
  unfold Oper.wp
  simp [execOp, ho, resolve, invoke, builtin, hd, hs, hrun, Result.andThen]
  exact hK _ _ (h _ (setRow_heap w g cur _ t _ hg) ⟨rfl, rfl, rfl, by simp [World.setRow], fun k _ hk => setRow_other w g k _ (fun e => hk (by rw [e]))⟩)

/-- A row of the call's own, all of it known. -/
def RowIs (w : World) (B g : Nat) (M : RL) : Prop := w.ownsRow B 31 2 (.slice (some ⟨g, 0, none⟩) M.length M.length) M.length (flat M)

theorem RowIs.block {w : World} {B g : Nat} {M : RL} (h : RowIs w B g M) : w.heap[g]? = some (.cells (flat M).toArray 31 (0, 0)) ∧ B ≤ g ∧ M.length ≤ maxLen := by
  rcases h.2 with ⟨e, _⟩ | ⟨g', cap, cur, e, hb, hg, h1, h2, h3, h4⟩
  · cases e
  · cases e
    refine ⟨?_, hb, h2⟩
    rw [hg]
    have : cur.toList = flat M := by rw [← h4]; exact (List.take_of_length_le (by simp [h3])).symm
    rw [← this]

theorem rowIs_of {w : World} {B g : Nat} {M : RL} (h : w.heap[g]? = some (.cells (flat M).toArray 31 (0, 0))) (hb : B ≤ g) (hm : M.length ≤ maxLen) : RowIs w B g M :=
  ⟨flat_length M, .inr ⟨g, M.length, (flat M).toArray, rfl, hb, h, Nat.le_refl _, hm, by simp [flat_length], List.take_of_length_le (by simp [flat_length])⟩⟩

theorem flat_replicate (n : Nat) (x y : Int) : (madeCells #[.int .i64 x, .int .i64 y] (n * 2)).toList = flat (List.replicate n (x, y)) := by
  apply List.ext_getElem?
  intro j
  by_cases hj : j < n * 2
  · have hq2 : j / 2 < n := by omega
    have hq : j / 2 < (List.replicate n (x, y)).length := by simp; omega
    have hf := flat_get (List.replicate n (x, y)) (j / 2) hq
    have hlo : lo (List.replicate n (x, y)) (j / 2) = x := by simp [lo, List.getD, hq2]
    have hhi : hi (List.replicate n (x, y)) (j / 2) = y := by simp [hi, List.getD, hq2]
    rw [hlo, hhi] at hf
    rcases Nat.mod_two_eq_zero_or_one j with h0 | h1
    · have e : j / 2 * 2 = j := by omega
      rw [e] at hf
      rw [hf.1]
      simp [madeCells, hj, h0]
    · have e : j / 2 * 2 + 1 = j := by omega
      rw [e] at hf
      rw [hf.2]
      simp [madeCells, hj, h1]
  · rw [List.getElem?_eq_none (by simp [madeCells]; omega), List.getElem?_eq_none (by simp [flat_length]; omega)]

theorem flat_set : ∀ (M : RL) (i : Nat) (x y : Int), flat (M.set i (x, y)) = ((flat M).set (i * 2) (.int .i64 x)).set (i * 2 + 1) (.int .i64 y)
  | [], _, _, _ => rfl
  | r :: t, 0, x, y => rfl
  | r :: t, i + 1, x, y => by
    have ih := flat_set t i x y
    have e1 : (i + 1) * 2 = i * 2 + 1 + 1 := by omega
    show .int .i64 r.1 :: .int .i64 r.2 :: flat (t.set i (x, y)) = _
    rw [ih, e1]
    rfl

theorem RowIs.stored {w : World} {B g : Nat} {M : RL} (h : RowIs w B g M) (i : Nat) (x y : Int) : RowIs ((w.setCell ⟨g, i * 2, none⟩ (.int .i64 x)).setCell ⟨g, i * 2 + 1, none⟩ (.int .i64 y)) B g (M.set i (x, y)) := by
  have h1 := (World.ownsRow.stored h (i * 2) (.int .i64 x)).1
  have h2 := (World.ownsRow.stored h1 (i * 2 + 1) (.int .i64 y)).1
  unfold RowIs
  rw [flat_set, List.length_set]
  exact h2

theorem RowIs.cells {w : World} {B g : Nat} {M : RL} (h : RowIs w B g M) : Cells w g 0 M := cells_of_own h

theorem cells_arg {w : World} {ao : Option Addr} {ls : RL} (h : ArgL w ao ls) : ∀ ad, ao = some ad → ∀ j v, (flat ls)[j]? = some v → w.cell? (ad.add j) = some v := by
  intro ad had j v hv
  have hj : j < ls.length * 2 := by
    have := (List.getElem?_eq_some_iff.1 hv).1
    simpa [flat_length] using this
  obtain ⟨b, off, e, _, h0, h1⟩ := h (j / 2) (by omega)
  rw [e] at had
  cases had
  have hf := flat_get ls (j / 2) (by omega)
  rw [Addr.add_lit]
  rcases Nat.mod_two_eq_zero_or_one j with h2 | h2
  · have e : j / 2 * 2 = j := by omega
    rw [e] at hf h0
    rw [h0]; rw [hf.1] at hv; exact hv
  · have e : j / 2 * 2 + 1 = j := by omega
    rw [e] at hf
    rw [Nat.add_assoc, e] at h1
    rw [h1]; rw [hf.2] at hv; exact hv

theorem arg_none {w : World} {ao : Option Addr} {ls : RL} (h : ArgL w ao ls) (e : ao = none) : flat ls = [] := by
  cases ls with
  | nil => rfl
  | cons r t => obtain ⟨b, off, e2, _⟩ := h 0 (by simp); rw [e] at e2; cases e2

theorem drop_flat (M : RL) (k : Nat) : (flat M).drop (k * 2) = flat (M.drop k) := by
  induction M generalizing k with
  | nil => simp [flat]
  | cons r t ih =>
    cases k with
    | zero => rfl
    | succ q =>
      have e1 : (q + 1) * 2 = q * 2 + 1 + 1 := by omega
      rw [e1]
      exact ih q

theorem marks_at (L : RL) (k : Nat) (h : L.length ≤ k) (h2 : k < L.length + 8) : (marks L)[k]? = some (-1000, 7) := by
  rw [marks, List.getElem?_append_right h, List.getElem?_replicate, if_pos (by omega)]

/-- The row that lent makes, so far: up to k it is as it shall be. -/
structure LentI (w wr : World) (g : Nat) (L M : RL) (k : Nat) : Prop where
  row : RowIs wr w.heap.size g M
  len : M.length = L.length + 8
  upto : ∀ j, j < k → M[j]? = (marks L)[j]?
  bel : Below w.heap.size w wr

theorem LentI.on {w wr wr' : World} {g : Nat} {L M : RL} {k : Nat} (h : LentI w wr g L M k) (hb : Below wr.heap.size wr wr') : LentI w wr' g L M k :=
  ⟨h.row.kept (grown_of_below hb) (.inr (by simp [Value.ownBlock])), h.len, h.upto, h.bel.trans (hb.mono h.bel.size)⟩

theorem LentI.step {w wr : World} {g : Nat} {L M : RL} {k : Nat} (h : LentI w wr g L M k) (h1 : L.length ≤ k) (h2 : k < L.length + 8) :
    LentI w ((wr.setCell ⟨g, k * 2, none⟩ (.int .i64 (-1000))).setCell ⟨g, k * 2 + 1, none⟩ (.int .i64 7)) g L (M.set k (-1000, 7)) (k + 1) := by
  have hg := h.row.block.2.1
  refine ⟨h.row.stored k _ _, by rw [List.length_set]; exact h.len, fun j hj => ?_, (h.bel.setCell hg _).setCell hg _⟩
  by_cases e : j = k
  · subst e
    rw [marks_at L j h1 h2, List.getElem?_set_self (by rw [h.len]; exact h2)]
  · rw [List.getElem?_set_ne (fun x => e x.symm)]
    exact h.upto j (by omega)

theorem LentI.done {w wr : World} {g : Nat} {L M : RL} (h : LentI w wr g L M (L.length + 8)) : RowIs wr w.heap.size g (marks L) := by
  have : M = marks L := by
    apply List.ext_getElem?
    intro j
    by_cases hj : j < L.length + 8
    · exact h.upto j hj
    · rw [List.getElem?_eq_none (by rw [h.len]; omega), List.getElem?_eq_none (by rw [marks_length]; omega)]
  rw [← this]; exact h.row

set_option maxHeartbeats 400000 in
theorem lent_any (L : RL) (ao : Option Addr) (cap : Nat) (w : World) (hl : ArgL w ao L) (hlen : L.length ≤ 549755813889) :
    Calls Try.prog 8 #[.slice ao L.length cap] w fun e w' => ∃ g, e = .returned (.slice (some ⟨g, 0, none⟩) (L.length + 8) (L.length + 8)) ∧ RowIs w' w.heap.size g (marks L) ∧ Below w.heap.size w w' := by
  obtain ⟨i0, hi0, hz0, hz1, hz2⟩ := info_parts Try.info31
  go_enter Try.func8, Try.ntmps8
  go_wp2_with (at_make; refine wpList_make_full _ rfl _ _ 22 rfl w.heap.size 31 i0 _ 2 Try.underlying22 hi0 hz0 hz1 _ _ _ _ (L.length + 8) rfl rfl (by omega) (by omega) (by rw [hz2]; omega) (by unfold maxLen; omega) (Nat.le_refl _) ?_)
  intro w1 hown hgrow
  have hrow : RowIs w1 w.heap.size w.heap.size (List.replicate (L.length + 8) (0, 0)) := by
    unfold RowIs
    rw [← flat_replicate, List.length_replicate]
    exact hown
  have hb1 : Below w.heap.size w w1 := (Below.refl _ _).grown hgrow (Nat.le_refl _) (fun k h => by cases h)
  have hblk := hrow.block.1
  have hl1 := hl.below hb1
  have hg1 : w.heap.size < w1.heap.size := (hown.lt _ rfl).2
  clear hown hgrow
  go_wp2_with (refine wpList_copy_head rfl (.tmp 9) (.tmp 10) 22 22 rfl 31 i0 Try.underlying22 hi0 w.heap.size (L.length + 8) (L.length + 8) ao L.length cap rfl rfl _ 31 hblk (flat L) (by omega) (by rw [flat_length, hz1]) (arg_none hl1) (cells_arg hl1) (by simp [flat_length]; omega) (flat_oneCell L) ?_; intro w2 hblk2 hgrow2)
  have hL : LentI w w2 w.heap.size L (L ++ List.replicate 8 (0, 0)) L.length := by
    refine ⟨rowIs_of ?_ (Nat.le_refl _) (by simp [maxLen]; omega), by simp, fun j hj => ?_, hb1.grown hgrow2 hb1.size (fun k h => by cases h; exact Nat.le_refl _)⟩
    · rw [hblk2]
      congr 3
      rw [flat_append]
      congr 1
      simp only [flat_length, drop_flat, List.drop_replicate]
      congr 2
      omega
    · rw [marks, List.getElem?_append_left hj, List.getElem?_append_left hj]
  clear hblk hblk2 hgrow2 hrow hl1 hb1 hg1
  generalize hgg : w.heap.size = g at *
  have Hg := hide hgg
  clear hgg
  go_wp2
  go_loopw [4] (fun i wr => ∃ (k : Nat) (M : RL), L.length ≤ k ∧ k ≤ L.length + 8 ∧ i = .int .i64 k ∧ LentI w wr g L M k) (fun i _ => L.length + 8 - (intOf i).toNat)
  case atStart => exact ⟨L.length, _, Nat.le_refl _, by omega, rfl, hL⟩
  case round =>
    obtain ⟨k, M, hk0, hk1, rfl, hI⟩ := hrel
    by_cases hlt : k < L.length + 8
    · go_wp2_with fail
      refine (mark_any 0 _ (by omega) (by omega)).mono ?_
      rintro e w3 ⟨rfl, hb3⟩
      have hI3 := hI.on hb3
      have hcs := hI3.row.cells.2 k (by rw [hI3.len]; omega)
      have c0 := hcs.1
      have c1 := hcs.2
      simp only [Nat.zero_add] at c0 c1
      have f0 := World.ownsRow.frozenAt hI3.row (k * 2)
      have f1 := World.ownsRow.frozenAt hI3.row (k * 2 + 1)
      clear hcs
      go_wp2
      go_roundw
      case rel => exact ⟨k + 1, _, by omega, by omega, by go_num, hI3.step hk0 hlt⟩
      case measure => simp [intOf]; omega
    · have hke : k = L.length + 8 := by omega
      subst hke
      go_wp2
      go_ret
      exact ⟨g, rfl, hI.done, hI.bel⟩

end Go.Proofs.Ytockkceclkcgbaa

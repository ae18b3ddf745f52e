/- The contract of the program's Tick, over the document's queue that it tells. -/
import Derived.Test.YtgcbooflhdjnhaaT28
namespace Go.Proofs.Ytgcbooflhdjnhaa
open Go.RowKit Go.Maps

/-- the step of a loop over the map of groups -/
theorem wpList_next_groups (w : World) {ops : Array Oper} {rest : List Oper} {o : Oper} {a : Act} {Q : Exit → Act → World → Prop} (hg : o.guard = none) (it : Operand) (hop : o.op = Op.next it false) (b r n : Nat) (D : DataW Unit) (left : Lit → Bool) (cnt : Nat) (names : List ByteArray) (f : Nat → Nat)
    (hhas : ∀ s, Maps.has D (keyL s) = (idx s names).isSome) (hat : ∀ s k, idx s names = some k → ∀ z, D.atKey (keyL s) z = .lit (.int .i64 (f k)))
    (hit : a.eval it = .pointer (some ⟨r, 0, none⟩)) (h : w.ranges Try.prog 9 ptrElem b r n D left cnt)
    (hDone : cnt = 0 → (∀ kl, left kl = false) → wpList Try.prog ops Q rest (a.put o.dst (.tuple #[.bool false])) w)
    (hMore : ∀ (x : ByteArray) (j : Nat) (w' : World) (cnt' : Nat), Hid (idx x names = some j) → Hid (left (keyL x) = true) → w'.ranges Try.prog 9 ptrElem b r n D (fun z => left z && !z.sameKey (keyL x)) cnt' → cnt' < cnt →
      w.grownBy w' (some r) → w'.heap.size = w.heap.size → (Instr.entry (.pointer (some ⟨r, 0, none⟩))).run Try.prog w' = .ok (.tuple #[.string x, .pointer (some ⟨f j, 0, none⟩)]) w' → wpList Try.prog ops Q rest (a.put o.dst (.tuple #[.bool true, .string x, .pointer (some ⟨f j, 0, none⟩)])) w') :
    wpList Try.prog ops Q (o :: rest) a w := by
  refine wpList_next_ranges _ hg it hop 9 law9 ptrElem Value.string ptrO (fun key kl hk => by obtain ⟨s, e, _⟩ := Go.WideMaps.string_of_keyOf Try.underlying9 hk; exact ⟨s, e⟩) (fun v y hv => ?_) b r n D left cnt hit h hDone ?_
  · unfold ptrElem at hv
    split at hv
    · rename_i c
      exact ⟨some c, rfl⟩
    · exact ⟨none, rfl⟩
    · cases hv
  · intro x c kl y w1 cnt1 hkey hlx hv hat1 hrg1 hlt hg1 hs1 hen
    obtain ⟨s, e, rfl, _⟩ := Go.WideMaps.string_of_keyOf Try.underlying9 hkey
    cases e
    have hh : Maps.has D (keyL x) = true := has_true_of_atKey hat1
    rw [hhas] at hh
    obtain ⟨j, hj⟩ := Option.isSome_iff_exists.1 hh
    have hv2 : ptrO c = ptrV (f j) := by
      have e1 : y.1 = .lit (.int .i64 (f j)) := (hat1 .nil).symm.trans (hat x j hj .nil)
      have e2 : ptrElem (ptrO c) = some (.lit (.int .i64 (f j)), y.2) := by rw [hv, ← e1]
      exact ptrElem_inv e2
    rw [hv2] at hen ⊢
    exact hMore x j w1 cnt1 (hide hj) (hide hlx) hrg1 hlt hg1 hs1 hen

theorem same_str {a b : ByteArray} (h : a ≠ b) : (keyL a).sameKey (keyL b) = false := sameKey_ne (fun e => h (keyL_inj e))
theorem same_str_self (a : ByteArray) : (keyL a).sameKey (keyL a) = true := WideAt.sameKey_self (keyL_key a)

/-- writes into a new block -/
theorem Step.grownNew {S : Tag → Prop} {w w1 w2 : World} {T T1 : Nat → Tag} (h : Step S w T w1 T1) {c : Nat} (hc : w.heap.size ≤ c) (hg : w1.grownBy w2 (some c)) : Step S w T w2 T1 :=
  ⟨hg.os.trans h.os, hg.tape.trans h.tape, hg.output.trans h.output, Nat.le_trans h.size hg.size, h.tag, fun i hi hS => (hg.block i (Nat.lt_of_lt_of_le hi h.size) (by simp; omega)).trans (h.block i hi hS)⟩

/-- a loop over a map stays where it is while other blocks are written -/
theorem ranges_step {S : Tag → Prop} {w w' : World} {T T' : Nat → Tag} {P : Program} {k : TypeId} {R : Value → Option (DataW Unit × List MemPlace)} {b r n : Nat} {D : DataW Unit} {left : Lit → Bool} {cnt : Nat} (h : w.ranges P k R b r n D left cnt) (hs : Step S w T w' T') (hb' : ¬ S (T b)) (hr' : ¬ S (T r)) : w'.ranges P k R b r n D left cnt := by
  have h1 := h.owns.lt
  have h2 := h.lt
  obtain ⟨es, clock, since, seen, c0, hb, F, hs', hD, hr, rest⟩ := h
  exact ⟨es, clock, since, seen, c0, (hs.block b h1 hb').trans hb, F, hs', hD, (hs.block r h2 hr').trans hr, rest⟩

/-- the blocks of all groups -/
def SA (i : Nat) (t : Tag) : Prop := ∃ k, SG i k t

def wokenP (left : Lit → Bool) (nm : ByteArray) (p : PG) (t : Int) : PG := bif left (keyL nm) then p else wakeP p t

set_option maxRecDepth 100000 in
set_option maxHeartbeats 1000000 in
theorem xtick_any (i b : Nat) (m : MQ) (d : Int) (w : World) (T : Nat → Tag) (hx : X w T i b m) (hok : m.Ok) :
    Calls Try.prog 87 #[.pointer (some ⟨b, 0, none⟩), .int .i64 d] w fun e w' => e = .returned (.int .i64 (tickE d)) ∧ ∃ T', Step (XT i) w T w' T' ∧ X w' T' i b (tickM m d) := by
  have ht := hok.time
  go_enter Try.func87, Try.ntmps87
  go_wp2_with fail
  refine (between_any _ _ _ _).mono ?_
  rintro e w1 ⟨rfl, hb1⟩
  have f1 : Step (XT i) w T w1 T := step_below _ T hb1
  replace hx := hx.below hb1
  clear hb1
  cases hd : btw d 0 60000
  · have eE : Hid (tickE d = 11) := hide (by simp [tickE, hd])
    have eM : tickM m d = m := by simp [tickM, hd]
    go_wp2
    go_ret
    exact ⟨by rw [eE.out]; rfl, T, f1, by rw [eM]; exact hx⟩
  have hd2 := btw_true hd
  have eE : Hid (tickE d = 0) := hide (by simp [tickE, hd])
  have eM : tickM m d = { m with time := m.time + d } := by simp [tickM, hd]
  obtain ⟨q1, q2, q3, q4, q5, vB, mb, f, ps, hB, hS, hN, hG⟩ := hx
  have lb := hB.lt
  have c4 := hB.cell (j := 4) rfl
  have z4 := hB.frozen 4
  simp only [List.getElem_toArray, List.getElem_cons_succ, List.getElem_cons_zero] at c4
  have s2 : Step (fun t => t = .q i 0 0) w1 T (w1.setCell ⟨b, 4, none⟩ (.int .i64 (m.time + d))) T := step_setCell _ _ _ _ _ hB.1
  have hB2 := hB.set 4 (.int .i64 (m.time + d))
  have hS2 := hS.step s2 (by simp)
  have hN2 := hN.step s2 (by simp)
  have hG2 : ∀ k g, m.groups[k]? = some g → GM (w1.setCell ⟨b, 4, none⟩ (.int .i64 (m.time + d))) T i k (f k) (ps k) ∧ RelG m g (ps k) := fun k g h => ⟨(hG k g h).1.step s2 (by intro r hr; simp; omega), (hG k g h).2⟩
  have l2 := hB2.lt
  have d7 := hB2.cell (j := 7) (v := .map (some mb)) (by simp)
  have f2 : Step (XT i) w T (w1.setCell ⟨b, 4, none⟩ (.int .i64 (m.time + d))) T := f1.trans (s2.mono (fun t h => by subst h; exact ⟨rfl, rfl⟩))
  simp only [List.setIfInBounds_toArray, List.set_cons_succ, List.set_cons_zero] at hB2
  obtain ⟨hTm, n, D, hown, hsz, hhas, hat⟩ := hN2
  clear hB hS hN hG f1 s2
  go_wp2_with (first
    | (at_range; refine wpList_range_own _ rfl _ 103 rfl 9 127 law9 Try.underlying103 _ mb n _ rfl hown ?_; intro w3 hrg0 hg0 hs0)
    | go_in)
  go_frame
  generalize w1.setCell ⟨b, 4, none⟩ (.int .i64 (m.time + d)) = w2 at *
  generalize hrr : w2.heap.size = r at *
  have g3 : Step (SA i) w2 T w3 (retag T r .free) := step_grown hg0 (fun k hk => by cases hk) (fun k hk => retag_other T r .free (by omega))
  have h3 : Step (fun _ => False) w2 T w3 (retag T r .free) := step_grown hg0 (fun k hk => by cases hk) (fun k hk => retag_other T r .free (by omega))
  go_loopw [6] (fun _ wr => ∃ (left : Lit → Bool) (cnt : Nat) (T' : Nat → Tag), wr.ranges Try.prog 9 ptrElem mb r n D left cnt ∧ Step (SA i) w2 T wr T' ∧ T' r = .free ∧ ∀ k g, m.groups[k]? = some g → GM wr T' i k (f k) (wokenP left g.name (ps k) (m.time + d))) (fun _ wr => wr.rangeLeft mb r)
  case atStart =>
    refine ⟨_, _, retag T r .free, hrg0, g3, retag_same _ _ _, fun k g hg => ?_⟩
    have hidx : (idx g.name m.names).isSome = true := by
      cases hi : idx g.name m.names with
      | some _ => rfl
      | none => exact absurd (by rw [MQ.names]; exact List.mem_map.2 ⟨g, List.mem_of_getElem? hg, rfl⟩) (idx_none.1 hi)
    have hw : wokenP (Maps.has D) g.name (ps k) (m.time + d) = ps k := by simp [wokenP, hhas, hidx]
    rw [hw]
    exact (hG2 k g hg).1.step h3 (fun _ _ h => h)
  case round =>
    obtain ⟨left, cnt, T', hrg, hs, hTr, hGw⟩ := hrel
    clear hrg0 hg0 hs0 g3 h3
    have hBr := hB2.step hs (by rintro ⟨k, h⟩; exact nSG (by decide) h)
    have lr := hBr.lt
    have k4 := hBr.cell (j := 4) rfl
    simp only [List.getElem_toArray, List.getElem_cons_succ, List.getElem_cons_zero] at k4
    have hrw : r < wr.heap.size := hrg.lt
    go_wp2_with (first
      | (at_next; refine wpList_next_groups _ rfl _ rfl mb r n _ _ _ m.names f hhas hat rfl hrg ?_ ?_)
      | go_in)
    · intro _ hl0
      go_wp2
      go_ret
      refine ⟨by rw [eE.out]; rfl, T', f2.trans (hs.mono (fun t h => by obtain ⟨k, r, _, rfl⟩ := h; exact ⟨rfl, rfl⟩)), ?_⟩
      rw [eM]
      refine ⟨q1, q2, q3, q4, fun g hg => inv_tick (q5 g hg) hd2.1 rfl rfl, vB, mb, f, fun k => wakeP (ps k) (m.time + d), hBr, hS2.step hs (by rintro ⟨k, h⟩; exact nSG (by decide) h), ⟨?_, n, D, hrg.owns, hsz, hhas, hat⟩, fun k g hg => ?_⟩
      · rw [hs.tag mb hown.lt]; exact hTm
      · have h1 := hGw k g hg
        have hw : wokenP left g.name (ps k) (m.time + d) = wakeP (ps k) (m.time + d) := by simp [wokenP, hl0]
        rw [hw] at h1
        exact ⟨h1, rel_tick (hG2 k g hg).2 (q5 g (List.mem_of_getElem? hg)) hd2.1 rfl rfl⟩
    · intro x j w4 cnt4 hj hlx hrg4 hlt hg4 hs4 hen
      have g4 : Step (fun t => t = .free) wr T' w4 T' := step_grown hg4 (fun k hk => by cases hk; exact hTr) (fun _ _ => rfl)
      have hB4 := hBr.step g4 (by simp)
      have l4 := hB4.lt
      have n4 := hB4.cell (j := 4) rfl
      simp only [List.getElem_toArray, List.getElem_cons_succ, List.getElem_cons_zero] at n4
      obtain ⟨gj, hgj, hgn⟩ := at_group (m := m) (s := x) (k := j) hj.out
      have hGj := (hGw j gj hgj).step g4 (by simp)
      rw [hgn] at hGj
      have hwk : wokenP left x (ps j) (m.time + d) = ps j := by simp [wokenP, hlx.out]
      rw [hwk] at hGj
      have hs24 : Step (SA i) w2 T w4 T' := hs.grownNew (by omega) hg4
      clear k4 lr
      go_wp2_with fail
      refine (wake_any i j (f j) (ps j) (m.time + d) w4 T' hGj).mono ?_
      rintro e w5 ⟨rfl, T5, hs5, hG5⟩
      have hTm4 : T' mb = .q i 2 0 := by rw [hs.tag mb hown.lt]; exact hTm
      have hrg5 := ranges_step hrg4 hs5 (by rw [hTm4]; exact nSG (by decide)) (by rw [hTr]; exact nSGf)
      go_wp2
      refine ⟨⟨_, cnt4, T5, hrg5, hs24.trans (hs5.mono (fun t h => ⟨j, h⟩)), ?_, fun k g hg => ?_⟩, ?_⟩
      · rw [hs5.tag r hrg4.lt]; exact hTr
      · by_cases hk : k = j
        · subst hk
          rw [hgj] at hg
          cases hg
          have hw : wokenP (fun z => left z && !z.sameKey (keyL x)) gj.name (ps k) (m.time + d) = wakeP (ps k) (m.time + d) := by simp [wokenP, hgn, same_str_self]
          rw [hw]
          exact hG5
        · have hne : g.name ≠ x := by
            intro e
            have h1 : m.names[k]? = some x := by simp [MQ.names, hg, e]
            have h2 : m.names[j]? = some x := by simp [MQ.names, hgj, hgn]
            have hk1 := (List.getElem?_eq_some_iff.1 h1).1
            have hk2 := (List.getElem?_eq_some_iff.1 h2).1
            exact hk ((List.getElem?_inj hk1 q3).1 (h1.trans h2.symm))
          have hw : wokenP (fun z => left z && !z.sameKey (keyL x)) g.name (ps k) (m.time + d) = wokenP left g.name (ps k) (m.time + d) := by simp [wokenP, same_str hne]
          rw [hw]
          exact ((hGw k g hg).step g4 (by simp)).step hs5 (fun r _ => nSGk hk)
      · rw [hrg5.left_eq, hrg.left_eq]; exact hlt

end Go.Proofs.Ytgcbooflhdjnhaa

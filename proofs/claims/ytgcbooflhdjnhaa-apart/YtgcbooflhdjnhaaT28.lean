/- Contracts of the program's Ack, Nack and Extend, over the document's queue that it tells. -/
import Derived.Test.YtgcbooflhdjnhaaT27
import Derived.Deep.RegionHeld3
namespace Go.Proofs.Ytgcbooflhdjnhaa
open Go.RowKit Go.Maps

attribute [local go_sem] over_cell

/-- what receipt finds is what the document's leased finds -/
theorem receipt_leased {m : MQ} {g : MG} {p : PG} {k : Nat} {s : ByteArray} {off tr : Int} (hr : RelG m g p) (hok : m.Ok) (ha : m.at s = some k) (hg : m.groups[k]? = some g) : receiptE m.floor (m.bodies.length - m.floor.toNat) p off tr = leasedE m s off tr := by
  have hfl := hok.fl
  have hlen := hok.len g (List.mem_of_getElem? hg)
  unfold receiptE leasedE
  simp only [ha, hg]
  rw [hr.start]
  by_cases h1 : off < m.floor
  · have e1 : btw off (max m.floor g.start) (m.floor + ((m.bodies.length - m.floor.toNat : Nat) : Int) - 1) = false := by simp [btw]; omega
    simp [e1, outside, h1]
  by_cases h2 : off < g.start
  · have e1 : btw off (max m.floor g.start) (m.floor + ((m.bodies.length - m.floor.toNat : Nat) : Int) - 1) = false := by simp [btw]; omega
    simp [e1, outside, h2]
  by_cases h3 : (m.bodies.length : Int) ≤ off
  · have e1 : btw off (max m.floor g.start) (m.floor + ((m.bodies.length - m.floor.toNat : Nat) : Int) - 1) = false := by simp [btw]; omega
    simp [e1, outside, h3]
  have e1 : btw off (max m.floor g.start) (m.floor + ((m.bodies.length - m.floor.toNat : Nat) : Int) - 1) = true := by simp [btw]; omega
  obtain ⟨n, rfl⟩ : ∃ n : Nat, off = n := ⟨off.toNat, by omega⟩
  obtain ⟨x, hx⟩ : ∃ x, g.items[n]? = some x := ⟨_, List.getElem?_eq_getElem (by omega)⟩
  rw [e1, hr.wt, hr.tr, itemAt_nat, hx]
  simp only [cond_true, outside, h1, h2, h3, decide_false, Bool.or_false, cond_false, Int.toNat_natCast, hx, waitOf, triesOf, notLeased]
  by_cases d1 : 0 < x.done
  · simp [d1]
  · by_cases d2 : m.time < x.till
    · have d3 : ¬ x.till ≤ m.time := by omega
      by_cases d4 : x.tries = tr <;> simp [d1, d2, d3, d4]
    · have d3 : x.till ≤ m.time := by omega
      by_cases d5 : m.time < x.after <;> simp [d1, d2, d3, d5]

/-- one group went on -/
theorem X.grp {w w' : World} {T T' : Nat → Tag} {i b : Nat} {m m' : MQ} {k : Nat} {g' : MG} {p' : PG} (hx : X w T i b m) (hs : Step (SG i k) w T w' T') {vB : Value} {mb : Nat} {f : Nat → Nat} {ps : Nat → PG}
    (hB : Blk w T (.q i 0 0) b #[.int .i64 m.c.l, .int .i64 m.c.d, .int .i64 m.c.s, .int .i64 m.c.k, .int .i64 m.time, .int .i64 m.floor, vB, .map (some mb)] 105)
    (hS : Sub w T (.q i 1 0) vB ((m.bodies.drop m.floor.toNat).map .string)) (hN : NM w T (.q i 2 0) mb m.names f) (hG : ∀ k g, m.groups[k]? = some g → GM w T i k (f k) (ps k) ∧ RelG m g (ps k))
    (hc : m'.c = m.c) (hb : m'.bodies = m.bodies) (hf : m'.floor = m.floor) (ht : m'.time = m.time) (hn : m'.names = m.names) (hgs : ∀ j g1, m'.groups[j]? = some g1 → (j = k ∧ g1 = g') ∨ (j ≠ k ∧ m.groups[j]? = some g1))
    (hG' : GM w' T' i k (f k) p') (hr' : RelG m' g' p') (hi' : InvG m' g') : X w' T' i b m' := by
  obtain ⟨h1, h2, h3, h4, h5, _⟩ := hx
  have hgl : m'.groups.length = m.groups.length := by
    have := congrArg List.length hn
    simpa [MQ.names] using this
  refine ⟨by rw [hb]; exact h1, by omega, by rw [hn]; exact h3, by rw [hn]; exact h4, fun g1 hg1 => ?_, vB, mb, f, updP ps k p', ?_, ?_, ?_, fun j g1 hj => ?_⟩
  · obtain ⟨j, hj⟩ := List.getElem?_of_mem hg1
    rcases hgs j g1 hj with ⟨_, rfl⟩ | ⟨_, hj2⟩
    · exact hi'
    · exact (h5 g1 (List.mem_of_getElem? hj2)).same ht hc
  · rw [hc, ht, hf]
    exact hB.step hs (nSG (by decide))
  · rw [hb, hf]
    exact hS.step hs (nSG (by decide))
  · rw [hn]
    exact hN.step hs (nSG (by decide))
  · rcases hgs j g1 hj with ⟨rfl, rfl⟩ | ⟨hjk, hj2⟩
    · simp only [updP, if_true]
      exact ⟨hG', hr'⟩
    · simp only [updP, hjk, if_false]
      exact ⟨(hG j g1 hj2).1.step hs (fun r _ => nSGk hjk), (hG j g1 hj2).2.same ht hb⟩

theorem setI_others {m : MQ} {k n : Nat} {g : MG} {y : It} (hg : m.groups[k]? = some g) : ∀ j g1, (m.setI k n y).groups[j]? = some g1 → (j = k ∧ g1 = { g with items := g.items.set n y }) ∨ (j ≠ k ∧ m.groups[j]? = some g1) := by
  intro j g1 hj
  rw [setI_group] at hj
  obtain ⟨g0, h0, h1⟩ := Option.map_eq_some_iff.1 hj
  by_cases hk : k = j
  · subst hk
    rw [hg] at h0
    cases h0
    simp only [if_true] at h1
    exact .inl ⟨rfl, h1.symm⟩
  · simp only [hk, if_false] at h1
    subst h1
    exact .inr ⟨fun e => hk e.symm, h0⟩

/-- a leased message, as the document has it -/
theorem leased_item {m : MQ} {s : ByteArray} {off tr : Int} {k : Nat} {g : MG} (hok : m.Ok) (ha : m.at s = some k) (hg : m.groups[k]? = some g) (h : leasedE m s off tr = 0) :
    ∃ (n : Nat) (x : It), off = (n : Int) ∧ g.items[n]? = some x ∧ n < m.bodies.length ∧ ¬ 0 < x.done ∧ m.time < x.till := by
  have hfl := hok.fl
  unfold leasedE at h
  simp only [ha, hg] at h
  cases ho : outside m g off with
  | true => rw [ho] at h; simp at h
  | false =>
    rw [ho] at h
    simp only [cond_false] at h
    cases hx : g.items[off.toNat]? with
    | none => rw [hx] at h; simp at h
    | some x =>
      rw [hx] at h
      simp only at h
      cases hn : notLeased m x tr with
      | true => rw [hn] at h; simp at h
      | false =>
        simp [outside] at ho
        simp [notLeased] at hn
        refine ⟨off.toNat, x, by omega, hx, ?_, by omega, by omega⟩
        have h1 := (List.getElem?_eq_some_iff.1 hx).1
        rw [hok.len g (List.mem_of_getElem? hg)] at h1
        exact h1

set_option maxRecDepth 100000 in
set_option maxHeartbeats 1000000 in
theorem xack_any (i b : Nat) (m : MQ) (s : ByteArray) (off tr : Int) (w : World) (T : Nat → Tag) (hx : X w T i b m) (hok : m.Ok) :
    Calls Try.prog 82 #[.pointer (some ⟨b, 0, none⟩), .string s, .int .i64 off, .int .i64 tr] w fun e w' => e = .returned (.int .i64 (leasedE m s off tr)) ∧ ∃ T', Step (XT i) w T w' T' ∧ X w' T' i b (ackM m s off tr) := by
  obtain ⟨vB, mb, f, ps, hB, hS, hN, hG, lk⟩ := hx.find
  have lb := hB.lt
  have c7 := hB.cell (j := 7) rfl
  simp only [List.getElem_toArray, List.getElem_cons_succ, List.getElem_cons_zero] at c7
  have lks := lk s
  clear lk
  cases ha : m.at s with
  | none =>
    have eE : Hid (leasedE m s off tr = 10) := hide (by simp [leasedE, ha])
    have eM : ackM m s off tr = m := by simp [ackM, eE.out]
    rw [ha] at lks
    simp only [Option.map_none, ptrO] at lks
    go_enter Try.func82, Try.ntmps82
    go_wp2
    go_ret
    exact ⟨by rw [eE.out]; rfl, T, Step.refl _ _ _, by rw [eM]; exact hx⟩
  | some k =>
    rw [ha] at lks
    simp only [Option.map_some, ptrO, ptrV] at lks
    obtain ⟨g, hg, _⟩ := at_group ha
    obtain ⟨hGk, hr⟩ := hG k g hg
    obtain ⟨ao, cap, _, c5, c6, e1, e2, e3, e4⟩ := hx.cells hok
    have hsm := hx.small
    go_enter Try.func82, Try.ntmps82
    go_wp2_with fail
    refine (receipt_any i k b (f k) (ps k) off tr m.floor ao _ cap w T hGk lb c5 c6 e2 (by omega)).mono ?_
    rintro e w1 ⟨rfl, hb1⟩
    obtain ⟨E, hEE⟩ : ∃ E, Hid (leasedE m s off tr = E) := ⟨_, hide rfl⟩
    rw [receipt_leased hr hok ha hg, hEE.out]
    have g1 := step_below (fun _ => False) T hb1
    have hx1 := hx.below hb1
    have hGk1 := hGk.step g1 (fun _ _ h => h)
    clear c5 c6 c7 lks hGk
    by_cases hE : E = 0
    · subst hE
      have hE := hEE.out
      obtain ⟨n, x, rfl, hxi, hnl, hd, _⟩ := leased_item hok ha hg hE
      have eM : ackM m s n tr = { m.setI k n { x with done := 1 } with changes := wrap64 (m.changes + 1) } := by simp [ackM, hE, onLeased_ok ha hg hxi]
      go_wp2_with fail
      refine (finish_any i k (f k) (ps k) n w1 T hGk1 hr.set (by omega)).mono ?_
      rintro e w2 ⟨rfl, T2, hs2, hG2⟩
      go_wp2
      go_ret
      refine ⟨by rw [hEE.out]; rfl, T2, (step_below _ T hb1).trans (hs2.mono (fun t ht => by obtain ⟨r, _, rfl⟩ := ht; exact ⟨rfl, rfl⟩)), ?_⟩
      rw [eM]
      have hi := hx.inv g (List.mem_of_getElem? hg)
      exact hx1.grp hs2 (hB.step g1 (fun h => h)) (hS.step g1 (fun h => h)) (hN.step g1 (fun h => h)) (fun k g h => ⟨(hG k g h).1.step g1 (fun _ _ h => h), (hG k g h).2⟩) rfl rfl rfl rfl setI_names (setI_others hg) hG2
        (rel_finish hr hxi (by omega) (by decide) rfl rfl) (inv_set hi hxi (by simp) (hi.tries x (List.mem_of_getElem? hxi)) (hi.excl x (List.mem_of_getElem? hxi)) (fun _ => by simp) rfl rfl)
    · have eM : ackM m s off tr = m := by simp [ackM, hEE.out, hE]
      go_wp2
      go_ret
      exact ⟨by rw [hEE.out]; rfl, T, step_below _ T hb1, by rw [eM]; exact hx1⟩

set_option maxRecDepth 100000 in
set_option maxHeartbeats 1000000 in
theorem xextend_any (i b : Nat) (m : MQ) (s : ByteArray) (off tr d : Int) (w : World) (T : Nat → Tag) (hx : X w T i b m) (hok : m.Ok) :
    Calls Try.prog 94 #[.pointer (some ⟨b, 0, none⟩), .string s, .int .i64 off, .int .i64 tr, .int .i64 d] w fun e w' => e = .returned (.int .i64 (rangedE m s off tr d 1)) ∧ ∃ T', Step (XT i) w T w' T' ∧ X w' T' i b (extendM m s off tr d) := by
  obtain ⟨vB, mb, f, ps, hB, hS, hN, hG, lk⟩ := hx.find
  have lb := hB.lt
  have c7 := hB.cell (j := 7) rfl
  simp only [List.getElem_toArray, List.getElem_cons_succ, List.getElem_cons_zero] at c7
  have lks := lk s
  clear lk
  cases ha : m.at s with
  | none =>
    have eE : Hid (rangedE m s off tr d 1 = 10) := hide (by simp [rangedE, leasedE, ha])
    have eM : extendM m s off tr d = m := by simp [extendM, eE.out]
    rw [ha] at lks
    simp only [Option.map_none, ptrO] at lks
    go_enter Try.func94, Try.ntmps94
    go_wp2
    go_ret
    exact ⟨by rw [eE.out]; rfl, T, Step.refl _ _ _, by rw [eM]; exact hx⟩
  | some k =>
    rw [ha] at lks
    simp only [Option.map_some, ptrO, ptrV] at lks
    obtain ⟨g, hg, _⟩ := at_group ha
    obtain ⟨hGk, hr⟩ := hG k g hg
    have hsm := hx.small
    have ht := hok.time
    go_enter Try.func94, Try.ntmps94
    go_wp2_with fail
    refine (between_any _ _ _ _).mono ?_
    rintro e w0 ⟨rfl, hb0⟩
    have g0 := step_below (fun _ => False) T hb0
    have hx0 := hx.below hb0
    have hGk0 := hGk.step g0 (fun _ _ h => h)
    have hB0 := hB.step g0 (fun h => h)
    have hS0 := hS.step g0 (fun h => h)
    have hN0 := hN.step g0 (fun h => h)
    have hG0 : ∀ k g, m.groups[k]? = some g → GM w0 T i k (f k) (ps k) ∧ RelG m g (ps k) := fun k g h => ⟨(hG k g h).1.step g0 (fun _ _ h => h), (hG k g h).2⟩
    clear hGk hB hS hN hG c7 lks lb g0
    cases hd : btw d 1 60000
    · have eE : Hid (rangedE m s off tr d 1 = 11) := hide (by simp [rangedE, ha, hd])
      have eM : extendM m s off tr d = m := by simp [extendM, eE.out]
      go_wp2
      go_ret
      exact ⟨by rw [eE.out]; rfl, T, step_below _ T hb0, by rw [eM]; exact hx0⟩
    have hd2 := btw_true hd
    have eR : Hid (rangedE m s off tr d 1 = leasedE m s off tr) := hide (by simp [rangedE, ha, hd])
    obtain ⟨ao, cap, lb, c5, c6, e1, e2, e3, e4⟩ := hx0.cells hok
    go_wp2_with fail
    refine (receipt_any i k b (f k) (ps k) off tr m.floor ao _ cap w0 T hGk0 lb c5 c6 e2 (by omega)).mono ?_
    rintro e w1 ⟨rfl, hb1⟩
    obtain ⟨E, hEE⟩ : ∃ E, Hid (leasedE m s off tr = E) := ⟨_, hide rfl⟩
    rw [receipt_leased hr hok ha hg, hEE.out]
    have g1 := step_below (fun _ => False) T hb1
    have hx1 := hx0.below hb1
    have hB1 := hB0.step g1 (fun h => h)
    have hGk1 := hGk0.step g1 (fun _ _ h => h)
    clear c5 c6 hGk0
    by_cases hE : E = 0
    · subst hE
      have hE := hEE.out
      obtain ⟨n, x, rfl, hxi, hnl, hdn, _⟩ := leased_item hok ha hg hE
      have eM : extendM m s n tr d = m.setI k n { x with till := m.time + d } := by simp [extendM, eR.out, hE, onLeased_ok ha hg hxi]
      have lb1 := hB1.lt
      have c4 := hB1.cell (j := 4) rfl
      simp only [List.getElem_toArray, List.getElem_cons_succ, List.getElem_cons_zero] at c4
      go_wp2_with fail
      refine (lease_any i k (f k) (ps k) n (m.time + d) w1 T hGk1 (by omega)).mono ?_
      rintro e w2 ⟨rfl, T2, hs2, hG2⟩
      go_wp2
      go_ret
      refine ⟨by rw [eR.out, hEE.out]; rfl, T2, (step_below _ T hb0).trans ((step_below _ T hb1).trans (hs2.mono (fun t ht => by obtain ⟨r, _, rfl⟩ := ht; exact ⟨rfl, rfl⟩))), ?_⟩
      rw [eM]
      have hi := hx.inv g (List.mem_of_getElem? hg)
      have hex := hi.excl x (List.mem_of_getElem? hxi)
      exact hx1.grp hs2 hB1 (hS0.step g1 (fun h => h)) (hN0.step g1 (fun h => h)) (fun k g h => ⟨(hG0 k g h).1.step g1 (fun _ _ h => h), (hG0 k g h).2⟩) rfl rfl rfl rfl setI_names (setI_others hg) hG2
        (rel_extend hr hxi (by omega) (by omega) rfl rfl) (inv_set hi hxi (hi.done x (List.mem_of_getElem? hxi)) (hi.tries x (List.mem_of_getElem? hxi)) (fun _ => hex (by assumption)) (fun h => h) rfl rfl)
    · have eM : extendM m s off tr d = m := by simp [extendM, eR.out, hEE.out, hE]
      go_wp2
      go_ret
      exact ⟨by rw [eR.out, hEE.out]; rfl, T, (step_below _ T hb0).trans (step_below _ T hb1), by rw [eM]; exact hx1⟩

end Go.Proofs.Ytgcbooflhdjnhaa

/- The contract of the program's Nack, over the document's queue that it tells. -/
namespace Go.Proofs.Ytgcbooflhdjnhaa
open Go.RowKit Go.Maps

attribute [local go_sem] over_cell

set_option maxRecDepth 100000 in
set_option maxHeartbeats 1000000 in
theorem xnack_any (i b : Nat) (m : MQ) (s : ByteArray) (off tr d : Int) (w : World) (T : Nat → Tag) (hx : X w T i b m) (hok : m.Ok) :
    Calls Try.prog 86 #[.pointer (some ⟨b, 0, none⟩), .string s, .int .i64 off, .int .i64 tr, .int .i64 d] w fun e w' => e = .returned (.int .i64 (rangedE m s off tr d 0)) ∧ ∃ T', Step (XT i) w T w' T' ∧ X w' T' i b (nackM m s off tr d) := by
  obtain ⟨vB, mb, f, ps, hB, hS, hN, hG, lk⟩ := hx.find
  have lb := hB.lt
  have c7 := hB.cell (j := 7) rfl
  simp only [List.getElem_toArray, List.getElem_cons_succ, List.getElem_cons_zero] at c7
  have lks := lk s
  clear lk
  cases ha : m.at s with
  | none =>
    have eE : Hid (rangedE m s off tr d 0 = 10) := hide (by simp [rangedE, leasedE, ha])
    have eM : nackM m s off tr d = m := by simp [nackM, eE.out]
    rw [ha] at lks
    simp only [Option.map_none, ptrO] at lks
    go_enter Try.func86, Try.ntmps86
    go_wp2
    go_ret
    exact ⟨by rw [eE.out]; rfl, T, Step.refl _ _ _, by rw [eM]; exact hx⟩
  | some k =>
    rw [ha] at lks
    simp only [Option.map_some, ptrO, ptrV] at lks
    obtain ⟨g, hg, _⟩ := at_group ha
    obtain ⟨hGk, hr⟩ := hG k g hg
    have hsm := hx.small
    have ht := hok.time
    go_enter Try.func86, Try.ntmps86
    go_wp2_with fail
    refine (between_any _ _ _ _).mono ?_
    rintro e w0 ⟨rfl, hb0⟩
    have g0 := step_below (fun _ => False) T hb0
    have hx0 := hx.below hb0
    have hGk0 := hGk.step g0 (fun _ _ h => h)
    have hB0 := hB.step g0 (fun h => h)
    have hS0 := hS.step g0 (fun h => h)
    have hN0 := hN.step g0 (fun h => h)
    have hG0 : ∀ k g, m.groups[k]? = some g → GM w0 T i k (f k) (ps k) ∧ RelG m g (ps k) := fun k g h => ⟨(hG k g h).1.step g0 (fun _ _ h => h), (hG k g h).2⟩
    clear hGk hB hS hN hG c7 lks lb g0
    cases hd : btw d 0 60000
    · have eE : Hid (rangedE m s off tr d 0 = 11) := hide (by simp [rangedE, ha, hd])
      have eM : nackM m s off tr d = m := by simp [nackM, eE.out]
      go_wp2
      go_ret
      exact ⟨by rw [eE.out]; rfl, T, step_below _ T hb0, by rw [eM]; exact hx0⟩
    have hd2 := btw_true hd
    have eR : Hid (rangedE m s off tr d 0 = leasedE m s off tr) := hide (by simp [rangedE, ha, hd])
    obtain ⟨ao, cap, lb, c5, c6, e1, e2, e3, e4⟩ := hx0.cells hok
    go_wp2_with fail
    refine (receipt_any i k b (f k) (ps k) off tr m.floor ao _ cap w0 T hGk0 lb c5 c6 e2 (by omega)).mono ?_
    rintro e w1 ⟨rfl, hb1⟩
    obtain ⟨E, hEE⟩ : ∃ E, Hid (leasedE m s off tr = E) := ⟨_, hide rfl⟩
    rw [receipt_leased hr hok ha hg, hEE.out]
    have g1 := step_below (fun _ => False) T hb1
    have hx1 := hx0.below hb1
    have hB1 := hB0.step g1 (fun h => h)
    have hGk1 := hGk0.step g1 (fun _ _ h => h)
    clear c5 c6 hGk0
    by_cases hE : E = 0
    · subst hE
      have hE := hEE.out
      obtain ⟨n, x, rfl, hxi, hnl, hdn, _⟩ := leased_item hok ha hg hE
      have eM : nackM m s n tr d = m.setI k n { x with till := 0, after := m.time + d } := by simp [nackM, eR.out, hE, onLeased_ok ha hg hxi]
      have lb1 := hB1.lt
      have c4 := hB1.cell (j := 4) rfl
      simp only [List.getElem_toArray, List.getElem_cons_succ, List.getElem_cons_zero] at c4
      obtain ⟨vD, vE, tb, wb, hBg, hD, hEd, hT, hW⟩ := hGk1
      have lg := hBg.lt
      have d4 := hBg.cell (j := 4) rfl
      simp only [List.getElem_toArray, List.getElem_cons_succ, List.getElem_cons_zero] at d4
      have hwr : IntKind.i64.wrap (m.time + d) = m.time + d := by rw [IntWalk.i64_left, IntWalk.wrap64_in _ ⟨by omega, by omega⟩]
      have hdr := step_below (fun _ => False) T (Below.refl w1.heap.size w1).drew
      obtain ⟨w2, hrun2, hW2, hs2⟩ := (hW.step hdr (fun h => h)).store (n := n) (by omega) (m.time + d, false)
      simp only [waitV] at hrun2
      have g2 : Step (fun t => t = .q i 7 k) w1 T w2 T := (hdr.mono (fun _ h => h.elim)).trans hs2
      have hB2 := hB1.step g2 (by simp)
      have hBg2 := hBg.step g2 (by simp)
      have k4 := hB2.cell (j := 4) rfl
      have j4 := hBg2.cell (j := 4) rfl
      simp only [List.getElem_toArray, List.getElem_cons_succ, List.getElem_cons_zero] at k4 j4
      have hG2 : GM w2 T i k (f k) (delayP (ps k) n (m.time + d)) := ⟨vD, vE, tb, wb, hBg2, hD.step g2 (by simp), hEd.step g2 (by simp), hT.step g2 (by simp), hW2⟩
      clear hW hT hEd hD hW2
      go_wp2_with fail
      go_region_held3 (fun w' => w'.cell? ⟨b, 4, none⟩ = some (.int .i64 m.time) ∧ w'.cell? ⟨f k, 4, none⟩ = some (.map (some wb))) (go_keep) (fail)
      have lb2 := hB2.lt
      go_wp2_with fail
      refine (wake_any i k (f k) _ m.time w2 T hG2).mono ?_
      rintro e w3 ⟨rfl, T3, hs3, hG3⟩
      go_wp2
      go_ret
      have hs13 : Step (SG i k) w1 T w3 T3 := (g2.mono (fun t ht => ⟨7, by decide, ht⟩)).trans hs3
      refine ⟨by rw [eR.out, hEE.out]; rfl, T3, (step_below _ T hb0).trans ((step_below _ T hb1).trans (hs13.mono (fun t ht => by obtain ⟨r, _, rfl⟩ := ht; exact ⟨rfl, rfl⟩))), ?_⟩
      rw [eM]
      have hi := hx.inv g (List.mem_of_getElem? hg)
      exact hx1.grp hs13 hB1 (hS0.step g1 (fun h => h)) (hN0.step g1 (fun h => h)) (fun k g h => ⟨(hG0 k g h).1.step g1 (fun _ _ h => h), (hG0 k g h).2⟩) rfl rfl rfl rfl setI_names (setI_others hg) hG3
        (rel_nack hr hxi (by omega) ht.1 rfl rfl) (inv_set hi hxi (hi.done x (List.mem_of_getElem? hxi)) (hi.tries x (List.mem_of_getElem? hxi)) (fun h => by have h' : m.time < 0 := h; omega) (fun h => h) rfl rfl)
    · have eM : nackM m s off tr d = m := by simp [nackM, eR.out, hEE.out, hE]
      go_wp2
      go_ret
      exact ⟨by rw [eR.out, hEE.out]; rfl, T, (step_below _ T hb0).trans (step_below _ T hb1), by rw [eM]; exact hx1⟩

end Go.Proofs.Ytgcbooflhdjnhaa

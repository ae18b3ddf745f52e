/- Contracts of the program's Ack, Nack and Extend, over the document's queue that it tells. -/
import Derived.Test.YtockkceclkcgbaaGreatDoorB30
import Derived.Deep.RegionHeld3
namespace Go.Proofs.YtockkceclkcgbaaGreatDoor
open Go.RowKit Go.Maps
variable {vL vS : Value} {lg : Bs}

attribute [local go_sem] over_cell

/-- what receipt finds is what the document's leased finds -/
theorem receipt_leased {m : MQ} {g : MG} {p : PG} {k : Nat} {s : ByteArray} {off tr : Int} (hr : RelG m g p) (hok : m.Ok) (ha : m.at s = some k) (hg : m.groups[k]? = some g) : receiptE m.floor (m.bodies.length - m.floor.toNat) p off tr = leasedE m s off tr := by
  have hfl := hok.fl
  have hlen := hok.len g (List.mem_of_getElem? hg)
  unfold receiptE leasedE
  simp only [ha, hg]
  rw [hr.start]
  by_cases h1 : off < m.floor
  · have e1 : btw off (max m.floor g.start) (m.floor + ((m.bodies.length - m.floor.toNat : Nat) : Int) - 1) = false := by simp [btw]; omega
    simp [e1, outside, h1]
  by_cases h2 : off < g.start
  · have e1 : btw off (max m.floor g.start) (m.floor + ((m.bodies.length - m.floor.toNat : Nat) : Int) - 1) = false := by simp [btw]; omega
    simp [e1, outside, h2]
  by_cases h3 : (m.bodies.length : Int) ≤ off
  · have e1 : btw off (max m.floor g.start) (m.floor + ((m.bodies.length - m.floor.toNat : Nat) : Int) - 1) = false := by simp [btw]; omega
    simp [e1, outside, h3]
  have e1 : btw off (max m.floor g.start) (m.floor + ((m.bodies.length - m.floor.toNat : Nat) : Int) - 1) = true := by simp [btw]; omega
  obtain ⟨n, rfl⟩ : ∃ n : Nat, off = n := ⟨off.toNat, by omega⟩
  obtain ⟨x, hx⟩ : ∃ x, g.items[n]? = some x := ⟨_, List.getElem?_eq_getElem (by omega)⟩
  rw [e1, hr.wt, hr.tr, itemAt_nat, hx]
  simp only [cond_true, outside, h1, h2, h3, decide_false, Bool.or_false, cond_false, Int.toNat_natCast, hx, waitOf, triesOf, notLeased]
  by_cases d1 : 0 < x.done
  · simp [d1]
  · by_cases d2 : m.time < x.till
    · have d3 : ¬ x.till ≤ m.time := by omega
      by_cases d4 : x.tries = tr <;> simp [d1, d2, d3, d4]
    · have d3 : x.till ≤ m.time := by omega
      by_cases d5 : m.time < x.after <;> simp [d1, d2, d3, d5]

/-- one group went on -/
theorem XM.grp {w w' : World} {T T' : Nat → Tag} {i b : Nat} {m m' : MQ} {k : Nat} {g' : MG} {p' : PG} (hx : XM w T i b m vL vS lg) (hs : Step (SG i k) w T w' T') {vB : Value} {mb : Nat} {f : Nat → Nat} {ps : Nat → PG}
    (hB : Blk w T (.q i 0 0) b #[.int .i64 m.c.l, .int .i64 m.c.d, .int .i64 m.c.s, .int .i64 m.c.k, .int .i64 m.time, .int .i64 m.floor, vB, .map (some mb), vL, vS] 105)
    (hS : Sub w T (.q i 1 0) vB ((m.bodies.drop m.floor.toNat).map .string)) (hN : NM w T (.q i 2 0) mb m.names f) (hG : ∀ k g, m.groups[k]? = some g → GM w T i k (f k) (ps k) ∧ RelG m g (ps k))
    (hc : m'.c = m.c) (hb : m'.bodies = m.bodies) (hf : m'.floor = m.floor) (ht : m'.time = m.time) (hn : m'.names = m.names) (hgs : ∀ j g1, m'.groups[j]? = some g1 → (j = k ∧ g1 = g') ∨ (j ≠ k ∧ m.groups[j]? = some g1))
    (hG' : GM w' T' i k (f k) p') (hr' : RelG m' g' p') (hi' : InvG m' g') (hLg : BRow w T (.q i 1 1) vL lg) : XM w' T' i b m' vL vS lg := by
  obtain ⟨h1, h2, h3, h4, h5, _⟩ := hx
  have hgl : m'.groups.length = m.groups.length := by
    have := congrArg List.length hn
    simpa [MQ.names] using this
  refine ⟨by rw [hb]; exact h1, by omega, by rw [hn]; exact h3, by rw [hn]; exact h4, fun g1 hg1 => ?_, vB, mb, f, updP ps k p', ?_, ?_, ?_, fun j g1 hj => ?_, hLg.step hs (nSG (by decide))⟩
  · obtain ⟨j, hj⟩ := List.getElem?_of_mem hg1
    rcases hgs j g1 hj with ⟨_, rfl⟩ | ⟨_, hj2⟩
    · exact hi'
    · exact (h5 g1 (List.mem_of_getElem? hj2)).same ht hc
  · rw [hc, ht, hf]
    exact hB.step hs (nSG (by decide))
  · rw [hb, hf]
    exact hS.step hs (nSG (by decide))
  · rw [hn]
    exact hN.step hs (nSG (by decide))
  · rcases hgs j g1 hj with ⟨rfl, rfl⟩ | ⟨hjk, hj2⟩
    · simp only [updP, if_true]
      exact ⟨hG', hr'⟩
    · simp only [updP, hjk, if_false]
      exact ⟨(hG j g1 hj2).1.step hs (fun r _ => nSGk hjk), (hG j g1 hj2).2.same ht hb⟩

theorem setI_others {m : MQ} {k n : Nat} {g : MG} {y : It} (hg : m.groups[k]? = some g) : ∀ j g1, (m.setI k n y).groups[j]? = some g1 → (j = k ∧ g1 = { g with items := g.items.set n y }) ∨ (j ≠ k ∧ m.groups[j]? = some g1) := by
  intro j g1 hj
  rw [setI_group] at hj
  obtain ⟨g0, h0, h1⟩ := Option.map_eq_some_iff.1 hj
  by_cases hk : k = j
  · subst hk
    rw [hg] at h0
    cases h0
    simp only [if_true] at h1
    exact .inl ⟨rfl, h1.symm⟩
  · simp only [hk, if_false] at h1
    subst h1
    exact .inr ⟨fun e => hk e.symm, h0⟩

/-- a leased message, as the document has it -/
theorem leased_item {m : MQ} {s : ByteArray} {off tr : Int} {k : Nat} {g : MG} (hok : m.Ok) (ha : m.at s = some k) (hg : m.groups[k]? = some g) (h : leasedE m s off tr = 0) :
    ∃ (n : Nat) (x : It), off = (n : Int) ∧ g.items[n]? = some x ∧ n < m.bodies.length ∧ ¬ 0 < x.done ∧ m.time < x.till := by
  have hfl := hok.fl
  unfold leasedE at h
  simp only [ha, hg] at h
  cases ho : outside m g off with
  | true => rw [ho] at h; simp at h
  | false =>
    rw [ho] at h
    simp only [cond_false] at h
    cases hx : g.items[off.toNat]? with
    | none => rw [hx] at h; simp at h
    | some x =>
      rw [hx] at h
      simp only at h
      cases hn : notLeased m x tr with
      | true => rw [hn] at h; simp at h
      | false =>
        simp [outside] at ho
        simp [notLeased] at hn
        refine ⟨off.toNat, x, by omega, hx, ?_, by omega, by omega⟩
        have h1 := (List.getElem?_eq_some_iff.1 hx).1
        rw [hok.len g (List.mem_of_getElem? hg)] at h1
        exact h1

set_option maxRecDepth 100000 in
set_option maxHeartbeats 1000000 in
theorem xack_any (i b : Nat) (m : MQ) (s : ByteArray) (off tr : Int) (w : World) (T : Nat → Tag) {ls : Nat} (hx : XM w T i b m vL (.int .u32 ls) lg) (hok : m.Ok) (hls : ls < 4294967296) (hll : lg.length ≤ 1000000000000) :
    Calls Tryz.prog 59 #[.pointer (some ⟨b, 0, none⟩), .string s, .int .i64 off, .int .i64 tr] w fun e w' => e = .returned (.int .i64 (leasedE m s off tr)) ∧ ∃ T' vL', Step (XT i) w T w' T' ∧ XM w' T' i b (ackM m s off tr) vL' (.int .u32 (logS (decide (leasedE m s off tr = 0)) ls 97 (namedB s [off]))) (logL (decide (leasedE m s off tr = 0)) lg ls 97 (namedB s [off])) := by
  obtain ⟨vB, mb, f, ps, hB, hS, hN, hG, lk, hLg⟩ := hx.find
  have lb := hB.lt
  have c7 := hB.cell (j := 7) rfl
  simp only [List.getElem_toArray, List.getElem_cons_succ, List.getElem_cons_zero] at c7
  have lks := lk s
  clear lk
  cases ha : m.at s with
  | none =>
    have eE : Hid (leasedE m s off tr = 10) := hide (by simp [leasedE, ha])
    have eM : ackM m s off tr = m := by simp [ackM, eE.out]
    rw [ha] at lks
    simp only [Option.map_none, ptrO] at lks
    go_enter Tryz.func59, Tryz.ntmps59
    go_wp2
    go_ret
    exact ⟨by rw [eE.out]; rfl, T, vL, Step.refl _ _ _, by rw [eM, eE.out]; exact hx⟩
  | some k =>
    have hsz : s.size ≤ 16 := hx.short s (List.mem_of_getElem? (idx_some ha))
    rw [ha] at lks
    simp only [Option.map_some, ptrO, ptrV] at lks
    obtain ⟨g, hg, _⟩ := at_group ha
    obtain ⟨hGk, hr⟩ := hG k g hg
    obtain ⟨ao, cap, _, c5, c6, e1, e2, e3, e4⟩ := hx.cells hok
    have hsm := hx.small
    go_enter Tryz.func59, Tryz.ntmps59
    go_wp2_with fail
    refine (receipt_any i k b (f k) (ps k) off tr m.floor ao _ cap w T hGk lb c5 c6 e2 (by omega)).mono ?_
    rintro e w1 ⟨rfl, hb1⟩
    obtain ⟨E, hEE⟩ : ∃ E, Hid (leasedE m s off tr = E) := ⟨_, hide rfl⟩
    rw [receipt_leased hr hok ha hg, hEE.out]
    have g1 := step_below (fun _ => False) T hb1
    have hx1 := hx.below hb1
    have hGk1 := hGk.step g1 (fun _ _ h => h)
    clear c5 c6 c7 lks hGk
    by_cases hE : E = 0
    · subst hE
      have hE := hEE.out
      obtain ⟨n, x, rfl, hxi, hnl, hd, _⟩ := leased_item hok ha hg hE
      have eM : ackM m s n tr = { m.setI k n { x with done := 1 } with changes := wrap64 (m.changes + 1) } := by simp [ackM, hE, onLeased_ok ha hg hxi]
      go_wp2_with fail
      refine (finish_any i k (f k) (ps k) n w1 T hGk1 hr.set (by omega)).mono ?_
      rintro e w2 ⟨rfl, T2, hs2, hG2⟩
      have hi := hx.inv g (List.mem_of_getElem? hg)
      have hx2 := hx1.grp hs2 (hB.step g1 (fun h => h)) (hS.step g1 (fun h => h)) (hN.step g1 (fun h => h)) (fun k g h => ⟨(hG k g h).1.step g1 (fun _ _ h => h), (hG k g h).2⟩) (m' := { m.setI k n { x with done := 1 } with changes := wrap64 (m.changes + 1) }) rfl rfl rfl rfl setI_names (setI_others hg) hG2
        (rel_finish hr hxi (by omega) (by decide) rfl rfl) (inv_set hi hxi (by simp) (hi.tries x (List.mem_of_getElem? hxi)) (hi.excl x (List.mem_of_getElem? hxi)) (fun _ => by simp) rfl rfl) (hLg.step g1 (fun h => h))
      have hadd := hx2.addOne hls hll 97 s (by omega) (n : Int) (by omega) (by omega)
      have lb2 := Nat.lt_of_lt_of_le (Nat.lt_of_lt_of_le lb hb1.size) hs2.size
      have f12 : Step (XT i) w T w2 T2 := (step_below _ T hb1).trans (hs2.mono (fun t ht => by obtain ⟨r, _, rfl⟩ := ht; exact ⟨rfl, rfl⟩))
      clear hx2 hB hS hN hG hG2 hs2 hx1 hGk1 hLg g1
      go_wp2_with fail
      refine hadd.mono ?_
      rintro e w3 ⟨rfl, T3, vL3, s3, hx3⟩
      go_wp2
      go_ret
      exact ⟨by rw [hEE.out]; rfl, T3, vL3, f12.trans s3, by rw [eM, hE]; exact hx3⟩
    · have eM : ackM m s off tr = m := by simp [ackM, hEE.out, hE]
      go_wp2
      go_ret
      exact ⟨by rw [hEE.out]; rfl, T, vL, step_below _ T hb1, by rw [eM, hEE.out, decide_eq_false hE]; exact hx1⟩

set_option maxRecDepth 100000 in
set_option maxHeartbeats 1000000 in
theorem xextend_any (i b : Nat) (m : MQ) (s : ByteArray) (off tr d : Int) (w : World) (T : Nat → Tag) (hx : XM w T i b m vL vS lg) (hok : m.Ok) :
    Calls Tryz.prog 114 #[.pointer (some ⟨b, 0, none⟩), .string s, .int .i64 off, .int .i64 tr, .int .i64 d] w fun e w' => e = .returned (.int .i64 (rangedE m s off tr d 1)) ∧ ∃ T', Step (XT i) w T w' T' ∧ XM w' T' i b (extendM m s off tr d) vL vS lg := by
  obtain ⟨vB, mb, f, ps, hB, hS, hN, hG, lk, hLg⟩ := hx.find
  have lb := hB.lt
  have c7 := hB.cell (j := 7) rfl
  simp only [List.getElem_toArray, List.getElem_cons_succ, List.getElem_cons_zero] at c7
  have lks := lk s
  clear lk
  cases ha : m.at s with
  | none =>
    have eE : Hid (rangedE m s off tr d 1 = 10) := hide (by simp [rangedE, leasedE, ha])
    have eM : extendM m s off tr d = m := by simp [extendM, eE.out]
    rw [ha] at lks
    simp only [Option.map_none, ptrO] at lks
    go_enter Tryz.func114, Tryz.ntmps114
    go_wp2
    go_ret
    exact ⟨by rw [eE.out]; rfl, T, Step.refl _ _ _, by rw [eM]; exact hx⟩
  | some k =>
    rw [ha] at lks
    simp only [Option.map_some, ptrO, ptrV] at lks
    obtain ⟨g, hg, _⟩ := at_group ha
    obtain ⟨hGk, hr⟩ := hG k g hg
    have hsm := hx.small
    have ht := hok.time
    go_enter Tryz.func114, Tryz.ntmps114
    go_wp2_with fail
    refine (between_any _ _ _ _).mono ?_
    rintro e w0 ⟨rfl, hb0⟩
    have g0 := step_below (fun _ => False) T hb0
    have hx0 := hx.below hb0
    have hGk0 := hGk.step g0 (fun _ _ h => h)
    have hB0 := hB.step g0 (fun h => h)
    have hS0 := hS.step g0 (fun h => h)
    have hLg0 := hLg.step g0 (fun h => h)
    have hN0 := hN.step g0 (fun h => h)
    have hG0 : ∀ k g, m.groups[k]? = some g → GM w0 T i k (f k) (ps k) ∧ RelG m g (ps k) := fun k g h => ⟨(hG k g h).1.step g0 (fun _ _ h => h), (hG k g h).2⟩
    clear hGk hB hS hN hG c7 lks lb g0
    cases hd : btw d 1 60000
    · have eE : Hid (rangedE m s off tr d 1 = 11) := hide (by simp [rangedE, ha, hd])
      have eM : extendM m s off tr d = m := by simp [extendM, eE.out]
      go_wp2
      go_ret
      exact ⟨by rw [eE.out]; rfl, T, step_below _ T hb0, by rw [eM]; exact hx0⟩
    have hd2 := btw_true hd
    have eR : Hid (rangedE m s off tr d 1 = leasedE m s off tr) := hide (by simp [rangedE, ha, hd])
    obtain ⟨ao, cap, lb, c5, c6, e1, e2, e3, e4⟩ := hx0.cells hok
    go_wp2_with fail
    refine (receipt_any i k b (f k) (ps k) off tr m.floor ao _ cap w0 T hGk0 lb c5 c6 e2 (by omega)).mono ?_
    rintro e w1 ⟨rfl, hb1⟩
    obtain ⟨E, hEE⟩ : ∃ E, Hid (leasedE m s off tr = E) := ⟨_, hide rfl⟩
    rw [receipt_leased hr hok ha hg, hEE.out]
    have g1 := step_below (fun _ => False) T hb1
    have hx1 := hx0.below hb1
    have hB1 := hB0.step g1 (fun h => h)
    have hGk1 := hGk0.step g1 (fun _ _ h => h)
    clear c5 c6 hGk0
    by_cases hE : E = 0
    · subst hE
      have hE := hEE.out
      obtain ⟨n, x, rfl, hxi, hnl, hdn, _⟩ := leased_item hok ha hg hE
      have eM : extendM m s n tr d = m.setI k n { x with till := m.time + d } := by simp [extendM, eR.out, hE, onLeased_ok ha hg hxi]
      have lb1 := hB1.lt
      have c4 := hB1.cell (j := 4) rfl
      simp only [List.getElem_toArray, List.getElem_cons_succ, List.getElem_cons_zero] at c4
      go_wp2_with fail
      refine (lease_any i k (f k) (ps k) n (m.time + d) w1 T hGk1 (by omega)).mono ?_
      rintro e w2 ⟨rfl, T2, hs2, hG2⟩
      go_wp2
      go_ret
      refine ⟨by rw [eR.out, hEE.out]; rfl, T2, (step_below _ T hb0).trans ((step_below _ T hb1).trans (hs2.mono (fun t ht => by obtain ⟨r, _, rfl⟩ := ht; exact ⟨rfl, rfl⟩))), ?_⟩
      rw [eM]
      have hi := hx.inv g (List.mem_of_getElem? hg)
      have hex := hi.excl x (List.mem_of_getElem? hxi)
      exact hx1.grp hs2 hB1 (hS0.step g1 (fun h => h)) (hN0.step g1 (fun h => h)) (fun k g h => ⟨(hG0 k g h).1.step g1 (fun _ _ h => h), (hG0 k g h).2⟩) rfl rfl rfl rfl setI_names (setI_others hg) hG2
        (rel_extend hr hxi (by omega) (by omega) rfl rfl) (inv_set hi hxi (hi.done x (List.mem_of_getElem? hxi)) (hi.tries x (List.mem_of_getElem? hxi)) (fun _ => hex (by assumption)) (fun h => h) rfl rfl) (hLg0.step g1 (fun h => h))
    · have eM : extendM m s off tr d = m := by simp [extendM, eR.out, hEE.out, hE]
      go_wp2
      go_ret
      exact ⟨by rw [eR.out, hEE.out]; rfl, T, (step_below _ T hb0).trans (step_below _ T hb1), by rw [eM]; exact hx1⟩

end Go.Proofs.YtockkceclkcgbaaGreatDoor

/- The contract of the program's Nack, over the document's queue that it tells. -/
namespace Go.Proofs.YtockkceclkcgbaaGreatDoor
open Go.RowKit Go.Maps
variable {vL vS : Value} {lg : Bs}

attribute [local go_sem] over_cell

set_option maxRecDepth 100000 in
set_option maxHeartbeats 1000000 in
theorem xnack_any (i b : Nat) (m : MQ) (s : ByteArray) (off tr d : Int) (w : World) (T : Nat → Tag) (hx : XM w T i b m vL vS lg) (hok : m.Ok) :
    Calls Tryz.prog 108 #[.pointer (some ⟨b, 0, none⟩), .string s, .int .i64 off, .int .i64 tr, .int .i64 d] w fun e w' => e = .returned (.int .i64 (rangedE m s off tr d 0)) ∧ ∃ T', Step (XT i) w T w' T' ∧ XM w' T' i b (nackM m s off tr d) vL vS lg := by
  obtain ⟨vB, mb, f, ps, hB, hS, hN, hG, lk, hLg⟩ := hx.find
  have lb := hB.lt
  have c7 := hB.cell (j := 7) rfl
  simp only [List.getElem_toArray, List.getElem_cons_succ, List.getElem_cons_zero] at c7
  have lks := lk s
  clear lk
  cases ha : m.at s with
  | none =>
    have eE : Hid (rangedE m s off tr d 0 = 10) := hide (by simp [rangedE, leasedE, ha])
    have eM : nackM m s off tr d = m := by simp [nackM, eE.out]
    rw [ha] at lks
    simp only [Option.map_none, ptrO] at lks
    go_enter Tryz.func108, Tryz.ntmps108
    go_wp2
    go_ret
    exact ⟨by rw [eE.out]; rfl, T, Step.refl _ _ _, by rw [eM]; exact hx⟩
  | some k =>
    rw [ha] at lks
    simp only [Option.map_some, ptrO, ptrV] at lks
    obtain ⟨g, hg, _⟩ := at_group ha
    obtain ⟨hGk, hr⟩ := hG k g hg
    have hsm := hx.small
    have ht := hok.time
    go_enter Tryz.func108, Tryz.ntmps108
    go_wp2_with fail
    refine (between_any _ _ _ _).mono ?_
    rintro e w0 ⟨rfl, hb0⟩
    have g0 := step_below (fun _ => False) T hb0
    have hx0 := hx.below hb0
    have hGk0 := hGk.step g0 (fun _ _ h => h)
    have hB0 := hB.step g0 (fun h => h)
    have hS0 := hS.step g0 (fun h => h)
    have hLg0 := hLg.step g0 (fun h => h)
    have hN0 := hN.step g0 (fun h => h)
    have hG0 : ∀ k g, m.groups[k]? = some g → GM w0 T i k (f k) (ps k) ∧ RelG m g (ps k) := fun k g h => ⟨(hG k g h).1.step g0 (fun _ _ h => h), (hG k g h).2⟩
    clear hGk hB hS hN hG c7 lks lb g0
    cases hd : btw d 0 60000
    · have eE : Hid (rangedE m s off tr d 0 = 11) := hide (by simp [rangedE, ha, hd])
      have eM : nackM m s off tr d = m := by simp [nackM, eE.out]
      go_wp2
      go_ret
      exact ⟨by rw [eE.out]; rfl, T, step_below _ T hb0, by rw [eM]; exact hx0⟩
    have hd2 := btw_true hd
    have eR : Hid (rangedE m s off tr d 0 = leasedE m s off tr) := hide (by simp [rangedE, ha, hd])
    obtain ⟨ao, cap, lb, c5, c6, e1, e2, e3, e4⟩ := hx0.cells hok
    go_wp2_with fail
    refine (receipt_any i k b (f k) (ps k) off tr m.floor ao _ cap w0 T hGk0 lb c5 c6 e2 (by omega)).mono ?_
    rintro e w1 ⟨rfl, hb1⟩
    obtain ⟨E, hEE⟩ : ∃ E, Hid (leasedE m s off tr = E) := ⟨_, hide rfl⟩
    rw [receipt_leased hr hok ha hg, hEE.out]
    have g1 := step_below (fun _ => False) T hb1
    have hx1 := hx0.below hb1
    have hB1 := hB0.step g1 (fun h => h)
    have hGk1 := hGk0.step g1 (fun _ _ h => h)
    clear c5 c6 hGk0
    by_cases hE : E = 0
    · subst hE
      have hE := hEE.out
      obtain ⟨n, x, rfl, hxi, hnl, hdn, _⟩ := leased_item hok ha hg hE
      have eM : nackM m s n tr d = m.setI k n { x with till := 0, after := m.time + d } := by simp [nackM, eR.out, hE, onLeased_ok ha hg hxi]
      have lb1 := hB1.lt
      have c4 := hB1.cell (j := 4) rfl
      simp only [List.getElem_toArray, List.getElem_cons_succ, List.getElem_cons_zero] at c4
      obtain ⟨vD, vE, tb, wb, hBg, hD, hEd, hT, hW⟩ := hGk1
      have lg := hBg.lt
      have d4 := hBg.cell (j := 4) rfl
      simp only [List.getElem_toArray, List.getElem_cons_succ, List.getElem_cons_zero] at d4
      have hwr : IntKind.i64.wrap (m.time + d) = m.time + d := by rw [IntWalk.i64_left, IntWalk.wrap64_in _ ⟨by omega, by omega⟩]
      have hdr := step_below (fun _ => False) T (Below.refl w1.heap.size w1).drew
      obtain ⟨w2, hrun2, hW2, hs2⟩ := (hW.step hdr (fun h => h)).store (n := n) (by omega) (m.time + d, false)
      simp only [waitV] at hrun2
      have g2 : Step (fun t => t = .q i 7 k) w1 T w2 T := (hdr.mono (fun _ h => h.elim)).trans hs2
      have hB2 := hB1.step g2 (by simp)
      have hBg2 := hBg.step g2 (by simp)
      have k4 := hB2.cell (j := 4) rfl
      have j4 := hBg2.cell (j := 4) rfl
      simp only [List.getElem_toArray, List.getElem_cons_succ, List.getElem_cons_zero] at k4 j4
      have hG2 : GM w2 T i k (f k) (delayP (ps k) n (m.time + d)) := ⟨vD, vE, tb, wb, hBg2, hD.step g2 (by simp), hEd.step g2 (by simp), hT.step g2 (by simp), hW2⟩
      clear hW hT hEd hD hW2
      go_wp2_with fail
      go_region_held3 (fun w' => w'.cell? ⟨b, 4, none⟩ = some (.int .i64 m.time) ∧ w'.cell? ⟨f k, 4, none⟩ = some (.map (some wb))) (go_keep) (fail)
      have lb2 := hB2.lt
      go_wp2_with fail
      refine (wake_any i k (f k) _ m.time w2 T hG2).mono ?_
      rintro e w3 ⟨rfl, T3, hs3, hG3⟩
      go_wp2
      go_ret
      have hs13 : Step (SG i k) w1 T w3 T3 := (g2.mono (fun t ht => ⟨7, by decide, ht⟩)).trans hs3
      refine ⟨by rw [eR.out, hEE.out]; rfl, T3, (step_below _ T hb0).trans ((step_below _ T hb1).trans (hs13.mono (fun t ht => by obtain ⟨r, _, rfl⟩ := ht; exact ⟨rfl, rfl⟩))), ?_⟩
      rw [eM]
      have hi := hx.inv g (List.mem_of_getElem? hg)
      exact hx1.grp hs13 hB1 (hS0.step g1 (fun h => h)) (hN0.step g1 (fun h => h)) (fun k g h => ⟨(hG0 k g h).1.step g1 (fun _ _ h => h), (hG0 k g h).2⟩) rfl rfl rfl rfl setI_names (setI_others hg) hG3
        (rel_nack hr hxi (by omega) ht.1 rfl rfl) (inv_set hi hxi (hi.done x (List.mem_of_getElem? hxi)) (hi.tries x (List.mem_of_getElem? hxi)) (fun h => by have h' : m.time < 0 := h; omega) (fun h => h) rfl rfl) (hLg0.step g1 (fun h => h))
    · have eM : nackM m s off tr d = m := by simp [nackM, eR.out, hEE.out, hE]
      go_wp2
      go_ret
      exact ⟨by rw [eR.out, hEE.out]; rfl, T, (step_below _ T hb0).trans (step_below _ T hb1), by rw [eM]; exact hx1⟩

end Go.Proofs.YtockkceclkcgbaaGreatDoor

/- The contract of the program's Tick, over the document's queue that it tells. -/
namespace Go.Proofs.YtockkceclkcgbaaGreatDoor
open Go.RowKit Go.Maps
variable {vL vS : Value} {lg : Bs}

/-- the step of a loop over the map of groups -/
theorem wpList_next_groups (w : World) {ops : Array Oper} {rest : List Oper} {o : Oper} {a : Act} {Q : Exit → Act → World → Prop} (hg : o.guard = none) (it : Operand) (hop : o.op = Op.next it false) (b r n : Nat) (D : DataW Unit) (left : Lit → Bool) (cnt : Nat) (names : List ByteArray) (f : Nat → Nat)
    (hhas : ∀ s, Maps.has D (keyL s) = (idx s names).isSome) (hat : ∀ s k, idx s names = some k → ∀ z, D.atKey (keyL s) z = .lit (.int .i64 (f k)))
    (hit : a.eval it = .pointer (some ⟨r, 0, none⟩)) (h : w.ranges Tryz.prog 9 ptrElem b r n D left cnt)
    (hDone : cnt = 0 → (∀ kl, left kl = false) → wpList Tryz.prog ops Q rest (a.put o.dst (.tuple #[.bool false])) w)
    (hMore : ∀ (x : ByteArray) (j : Nat) (w' : World) (cnt' : Nat), Hid (idx x names = some j) → Hid (left (keyL x) = true) → w'.ranges Tryz.prog 9 ptrElem b r n D (fun z => left z && !z.sameKey (keyL x)) cnt' → cnt' < cnt →
      w.grownBy w' (some r) → w'.heap.size = w.heap.size → (Instr.entry (.pointer (some ⟨r, 0, none⟩))).run Tryz.prog w' = .ok (.tuple #[.string x, .pointer (some ⟨f j, 0, none⟩)]) w' → wpList Tryz.prog ops Q rest (a.put o.dst (.tuple #[.bool true, .string x, .pointer (some ⟨f j, 0, none⟩)])) w') :
    wpList Tryz.prog ops Q (o :: rest) a w := by
  refine wpList_next_ranges _ hg it hop 9 law9 ptrElem Value.string ptrO (fun key kl hk => by obtain ⟨s, e, _⟩ := Go.WideMaps.string_of_keyOf Tryz.underlying9 hk; exact ⟨s, e⟩) (fun v y hv => ?_) b r n D left cnt hit h hDone ?_
  · unfold ptrElem at hv
    split at hv
    · rename_i c
      exact ⟨some c, rfl⟩
    · exact ⟨none, rfl⟩
    · cases hv
  · intro x c kl y w1 cnt1 hkey hlx hv hat1 hrg1 hlt hg1 hs1 hen
    obtain ⟨s, e, rfl, _⟩ := Go.WideMaps.string_of_keyOf Tryz.underlying9 hkey
    cases e
    have hh : Maps.has D (keyL x) = true := has_true_of_atKey hat1
    rw [hhas] at hh
    obtain ⟨j, hj⟩ := Option.isSome_iff_exists.1 hh
    have hv2 : ptrO c = ptrV (f j) := by
      have e1 : y.1 = .lit (.int .i64 (f j)) := (hat1 .nil).symm.trans (hat x j hj .nil)
      have e2 : ptrElem (ptrO c) = some (.lit (.int .i64 (f j)), y.2) := by rw [hv, ← e1]
      exact ptrElem_inv e2
    rw [hv2] at hen ⊢
    exact hMore x j w1 cnt1 (hide hj) (hide hlx) hrg1 hlt hg1 hs1 hen

theorem same_str {a b : ByteArray} (h : a ≠ b) : (keyL a).sameKey (keyL b) = false := sameKey_ne (fun e => h (keyL_inj e))
theorem same_str_self (a : ByteArray) : (keyL a).sameKey (keyL a) = true := WideAt.sameKey_self (keyL_key a)

/-- writes into a new block -/
theorem Step.grownNew {S : Tag → Prop} {w w1 w2 : World} {T T1 : Nat → Tag} (h : Step S w T w1 T1) {c : Nat} (hc : w.heap.size ≤ c) (hg : w1.grownBy w2 (some c)) : Step S w T w2 T1 :=
  ⟨hg.os.trans h.os, hg.tape.trans h.tape, hg.output.trans h.output, Nat.le_trans h.size hg.size, h.tag, fun i hi hS => (hg.block i (Nat.lt_of_lt_of_le hi h.size) (by simp; omega)).trans (h.block i hi hS)⟩

/-- a loop over a map stays where it is while other blocks are written -/
theorem ranges_step {S : Tag → Prop} {w w' : World} {T T' : Nat → Tag} {P : Program} {k : TypeId} {R : Value → Option (DataW Unit × List MemPlace)} {b r n : Nat} {D : DataW Unit} {left : Lit → Bool} {cnt : Nat} (h : w.ranges P k R b r n D left cnt) (hs : Step S w T w' T') (hb' : ¬ S (T b)) (hr' : ¬ S (T r)) : w'.ranges P k R b r n D left cnt := by
  have h1 := h.owns.lt
  have h2 := h.lt
  obtain ⟨es, clock, since, seen, c0, hb, F, hs', hD, hr, rest⟩ := h
  exact ⟨es, clock, since, seen, c0, (hs.block b h1 hb').trans hb, F, hs', hD, (hs.block r h2 hr').trans hr, rest⟩

/-- the blocks of all groups -/
def SA (i : Nat) (t : Tag) : Prop := ∃ k, SG i k t

def wokenP (left : Lit → Bool) (nm : ByteArray) (p : PG) (t : Int) : PG := bif left (keyL nm) then p else wakeP p t

set_option maxRecDepth 100000 in
set_option maxHeartbeats 1000000 in
theorem xtick_any (i b : Nat) (m : MQ) (d : Int) (w : World) (T : Nat → Tag) (hx : XM w T i b m vL vS lg) (hok : m.Ok) :
    Calls Tryz.prog 55 #[.pointer (some ⟨b, 0, none⟩), .int .i64 d] w fun e w' => e = .returned (.int .i64 (tickE d)) ∧ ∃ T', Step (XT i) w T w' T' ∧ XM w' T' i b (tickM m d) vL vS lg := by
  have ht := hok.time
  go_enter Tryz.func55, Tryz.ntmps55
  go_wp2_with fail
  refine (between_any _ _ _ _).mono ?_
  rintro e w1 ⟨rfl, hb1⟩
  have f1 : Step (XT i) w T w1 T := step_below _ T hb1
  replace hx := hx.below hb1
  clear hb1
  cases hd : btw d 0 60000
  · have eE : Hid (tickE d = 11) := hide (by simp [tickE, hd])
    have eM : tickM m d = m := by simp [tickM, hd]
    go_wp2
    go_ret
    exact ⟨by rw [eE.out]; rfl, T, f1, by rw [eM]; exact hx⟩
  have hd2 := btw_true hd
  have eE : Hid (tickE d = 0) := hide (by simp [tickE, hd])
  have eM : tickM m d = { m with time := m.time + d } := by simp [tickM, hd]
  obtain ⟨q1, q2, q3, q4, q5, vB, mb, f, ps, hB, hS, hN, hG, hL⟩ := hx
  have lb := hB.lt
  have c4 := hB.cell (j := 4) rfl
  have z4 := hB.frozen 4
  simp only [List.getElem_toArray, List.getElem_cons_succ, List.getElem_cons_zero] at c4
  have s2 : Step (fun t => t = .q i 0 0) w1 T (w1.setCell ⟨b, 4, none⟩ (.int .i64 (m.time + d))) T := step_setCell _ _ _ _ _ hB.1
  have hB2 := hB.set 4 (.int .i64 (m.time + d))
  have hS2 := hS.step s2 (by simp)
  have hN2 := hN.step s2 (by simp)
  have hL2 := hL.step s2 (by simp)
  have hG2 : ∀ k g, m.groups[k]? = some g → GM (w1.setCell ⟨b, 4, none⟩ (.int .i64 (m.time + d))) T i k (f k) (ps k) ∧ RelG m g (ps k) := fun k g h => ⟨(hG k g h).1.step s2 (by intro r hr; simp; omega), (hG k g h).2⟩
  have l2 := hB2.lt
  have d7 := hB2.cell (j := 7) (v := .map (some mb)) (by simp)
  have f2 : Step (XT i) w T (w1.setCell ⟨b, 4, none⟩ (.int .i64 (m.time + d))) T := f1.trans (s2.mono (fun t h => by subst h; exact ⟨rfl, rfl⟩))
  simp only [List.setIfInBounds_toArray, List.set_cons_succ, List.set_cons_zero] at hB2
  obtain ⟨hTm, n, D, hown, hsz, hhas, hat⟩ := hN2
  clear hB hS hN hG f1 s2
  go_wp2_with (first
    | (at_range; refine wpList_range_own _ rfl _ 99 rfl 9 129 law9 Tryz.underlying99 _ mb n _ rfl hown ?_; intro w3 hrg0 hg0 hs0)
    | go_in)
  go_frame
  generalize w1.setCell ⟨b, 4, none⟩ (.int .i64 (m.time + d)) = w2 at *
  generalize hrr : w2.heap.size = r at *
  have g3 : Step (SA i) w2 T w3 (retag T r .free) := step_grown hg0 (fun k hk => by cases hk) (fun k hk => retag_other T r .free (by omega))
  have h3 : Step (fun _ => False) w2 T w3 (retag T r .free) := step_grown hg0 (fun k hk => by cases hk) (fun k hk => retag_other T r .free (by omega))
  go_loopw [6] (fun _ wr => ∃ (left : Lit → Bool) (cnt : Nat) (T' : Nat → Tag), wr.ranges Tryz.prog 9 ptrElem mb r n D left cnt ∧ Step (SA i) w2 T wr T' ∧ T' r = .free ∧ ∀ k g, m.groups[k]? = some g → GM wr T' i k (f k) (wokenP left g.name (ps k) (m.time + d))) (fun _ wr => wr.rangeLeft mb r)
  case atStart =>
    refine ⟨_, _, retag T r .free, hrg0, g3, retag_same _ _ _, fun k g hg => ?_⟩
    have hidx : (idx g.name m.names).isSome = true := by
      cases hi : idx g.name m.names with
      | some _ => rfl
      | none => exact absurd (by rw [MQ.names]; exact List.mem_map.2 ⟨g, List.mem_of_getElem? hg, rfl⟩) (idx_none.1 hi)
    have hw : wokenP (Maps.has D) g.name (ps k) (m.time + d) = ps k := by simp [wokenP, hhas, hidx]
    rw [hw]
    exact (hG2 k g hg).1.step h3 (fun _ _ h => h)
  case round =>
    obtain ⟨left, cnt, T', hrg, hs, hTr, hGw⟩ := hrel
    clear hrg0 hg0 hs0 g3 h3
    have hBr := hB2.step hs (by rintro ⟨k, h⟩; exact nSG (by decide) h)
    have lr := hBr.lt
    have k4 := hBr.cell (j := 4) rfl
    simp only [List.getElem_toArray, List.getElem_cons_succ, List.getElem_cons_zero] at k4
    have hrw : r < wr.heap.size := hrg.lt
    go_wp2_with (first
      | (at_next; refine wpList_next_groups _ rfl _ rfl mb r n _ _ _ m.names f hhas hat rfl hrg ?_ ?_)
      | go_in)
    · intro _ hl0
      go_wp2
      go_ret
      refine ⟨by rw [eE.out]; rfl, T', f2.trans (hs.mono (fun t h => by obtain ⟨k, r, _, rfl⟩ := h; exact ⟨rfl, rfl⟩)), ?_⟩
      rw [eM]
      refine ⟨q1, q2, q3, q4, fun g hg => inv_tick (q5 g hg) hd2.1 rfl rfl, vB, mb, f, fun k => wakeP (ps k) (m.time + d), hBr, hS2.step hs (by rintro ⟨k, h⟩; exact nSG (by decide) h), ⟨?_, n, D, hrg.owns, hsz, hhas, hat⟩, fun k g hg => ?_, hL2.step hs (by rintro ⟨k, h⟩; exact nSG (by decide) h)⟩
      · rw [hs.tag mb hown.lt]; exact hTm
      · have h1 := hGw k g hg
        have hw : wokenP left g.name (ps k) (m.time + d) = wakeP (ps k) (m.time + d) := by simp [wokenP, hl0]
        rw [hw] at h1
        exact ⟨h1, rel_tick (hG2 k g hg).2 (q5 g (List.mem_of_getElem? hg)) hd2.1 rfl rfl⟩
    · intro x j w4 cnt4 hj hlx hrg4 hlt hg4 hs4 hen
      have g4 : Step (fun t => t = .free) wr T' w4 T' := step_grown hg4 (fun k hk => by cases hk; exact hTr) (fun _ _ => rfl)
      have hB4 := hBr.step g4 (by simp)
      have l4 := hB4.lt
      have n4 := hB4.cell (j := 4) rfl
      simp only [List.getElem_toArray, List.getElem_cons_succ, List.getElem_cons_zero] at n4
      obtain ⟨gj, hgj, hgn⟩ := at_group (m := m) (s := x) (k := j) hj.out
      have hGj := (hGw j gj hgj).step g4 (by simp)
      rw [hgn] at hGj
      have hwk : wokenP left x (ps j) (m.time + d) = ps j := by simp [wokenP, hlx.out]
      rw [hwk] at hGj
      have hs24 : Step (SA i) w2 T w4 T' := hs.grownNew (by omega) hg4
      clear k4 lr
      go_wp2_with fail
      refine (wake_any i j (f j) (ps j) (m.time + d) w4 T' hGj).mono ?_
      rintro e w5 ⟨rfl, T5, hs5, hG5⟩
      have hTm4 : T' mb = .q i 2 0 := by rw [hs.tag mb hown.lt]; exact hTm
      have hrg5 := ranges_step hrg4 hs5 (by rw [hTm4]; exact nSG (by decide)) (by rw [hTr]; exact nSGf)
      go_wp2
      refine ⟨⟨_, cnt4, T5, hrg5, hs24.trans (hs5.mono (fun t h => ⟨j, h⟩)), ?_, fun k g hg => ?_⟩, ?_⟩
      · rw [hs5.tag r hrg4.lt]; exact hTr
      · by_cases hk : k = j
        · subst hk
          rw [hgj] at hg
          cases hg
          have hw : wokenP (fun z => left z && !z.sameKey (keyL x)) gj.name (ps k) (m.time + d) = wakeP (ps k) (m.time + d) := by simp [wokenP, hgn, same_str_self]
          rw [hw]
          exact hG5
        · have hne : g.name ≠ x := by
            intro e
            have h1 : m.names[k]? = some x := by simp [MQ.names, hg, e]
            have h2 : m.names[j]? = some x := by simp [MQ.names, hgj, hgn]
            have hk1 := (List.getElem?_eq_some_iff.1 h1).1
            have hk2 := (List.getElem?_eq_some_iff.1 h2).1
            exact hk ((List.getElem?_inj hk1 q3).1 (h1.trans h2.symm))
          have hw : wokenP (fun z => left z && !z.sameKey (keyL x)) g.name (ps k) (m.time + d) = wokenP left g.name (ps k) (m.time + d) := by simp [wokenP, same_str hne]
          rw [hw]
          exact ((hGw k g hg).step g4 (by simp)).step hs5 (fun r _ => nSGk hk)
      · rw [hrg5.left_eq, hrg.left_eq]; exact hlt

end Go.Proofs.YtockkceclkcgbaaGreatDoor

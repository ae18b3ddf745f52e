/- Contracts of the document's Nack, Extend and Tick. -/
import Derived.Test.YtgcbooflhdjnhaaT09
namespace Go.Proofs.Ytgcbooflhdjnhaa
open Go.RowKit

/-- a write into the item, where its row is known by the cells that lead to it -/
theorem YQ.itemAt {w : World} {T : Nat → Tag} {i b : Nat} {m : MQ} {k n gb gc gi ic : Nat} {g : MG} {x : It} (hy : YQ w T i b m.rq) (hok : m.Ok) (hg : m.groups[k]? = some g) (hx : g.items[n]? = some x)
    (c6 : w.cell? ⟨b, 6, none⟩ = some (.slice (some ⟨gb, 0, none⟩) m.groups.length gc)) (d2 : w.cell? ⟨gb, k * 4 + 2, none⟩ = some (.slice (some ⟨gi, 0, none⟩) m.bodies.length ic))
    (f : Nat) (v : Value) (y : It) (hf : f < 4) (hs : (itVals g.items).set (n * 4 + f) v = itVals (g.items.set n y)) :
    YQ (w.setCell ⟨gi, n * 4 + f, none⟩ v) T i b (m.setI k n y).rq ∧ Step (fun t => ∃ r j, t = .y i r j) w T (w.setCell ⟨gi, n * 4 + f, none⟩ v) T := by
  obtain ⟨gb', gc', gi', ic', c6', d2', _, _, _, _, _, _, _, _, _, _, _, _, _, _, _, hset⟩ := hy.item hok hg hx
  rw [c6] at c6'
  have e1 : gb' = gb := by simpa using (congrArg (fun o => match o with | some (Value.slice (some a) _ _) => a.block | _ => 0) c6').symm
  subst e1
  rw [d2] at d2'
  have e2 : gi' = gi := by simpa using (congrArg (fun o => match o with | some (Value.slice (some a) _ _) => a.block | _ => 0) d2').symm
  subst e2
  exact hset f v y hf hs

theorem setI_twice {m : MQ} {k n : Nat} {y z : It} : (m.setI k n y).setI k n z = m.setI k n z := by
  unfold MQ.setI
  simp only
  congr 1
  apply List.ext_getElem?
  intro j
  simp only [List.getElem?_modify]
  by_cases h : k = j
  · subst h
    cases m.groups[k]? <;> simp
  · cases m.groups[j]? <;> simp [h]

/-- Nack's and Extend's error: the range's ahead of the lease's -/
def rangedE (m : MQ) (s : ByteArray) (off tr n lo : Int) : Int := bif (m.at s).isSome && !btw n lo 60000 then 11 else leasedE m s off tr
def nackM (m : MQ) (s : ByteArray) (off tr d : Int) : MQ := bif decide (rangedE m s off tr d 0 = 0) then onLeased m s off 0 (fun x => { x with till := 0, after := m.time + d }) else m
def extendM (m : MQ) (s : ByteArray) (off tr d : Int) : MQ := bif decide (rangedE m s off tr d 1 = 0) then onLeased m s off 0 (fun x => { x with till := m.time + d }) else m

theorem leased_none {m : MQ} {s : ByteArray} {off tr : Int} (h : m.at s = none) : leasedE m s off tr = 10 := by simp [leasedE, h]

set_option maxRecDepth 100000 in
set_option maxHeartbeats 2000000 in
theorem ynack_any (i b : Nat) (m : MQ) (s : ByteArray) (off tr d : Int) (w : World) (T : Nat → Tag) (hy : YQ w T i b m.rq) (hok : m.Ok) :
    Calls Try.prog 93 #[.pointer (some ⟨b, 0, none⟩), .string s, .int .i64 off, .int .i64 tr, .int .i64 d] w fun e w' => e = .returned (.int .i64 (rangedE m s off tr d 0)) ∧ ∃ T', Step (fun t => ∃ r j, t = .y i r j) w T w' T' ∧ YQ w' T' i b (nackM m s off tr d).rq := by
  go_enter Try.func93, Try.ntmps93
  go_wp2_with fail
  refine (yat_any i b m.rq s w T hy).mono ?_
  rintro e w0 ⟨rfl, rfl⟩
  -- the range
  by_cases hr : (m.at s).isSome = true ∧ btw d 0 60000 = false
  · obtain ⟨k, ha⟩ := Option.isSome_iff_exists.1 hr.1
    rw [place_some ha]
    have hE : Hid (rangedE m s off tr d 0 = 11) := hide (by simp [rangedE, ha, hr.2])
    have hM : Hid (nackM m s off tr d = m) := hide (by simp [nackM, hE.out])
    have hd := btw_false hr.2
    clear hr
    by_cases h0 : d < 0
    · go_wp2
      go_ret
      exact ⟨by rw [hE.out]; rfl, T, Step.refl _ _ _, by rw [hM.out]; exact hy⟩
    · have h1 : 60000 < d := by omega
      go_wp2
      go_ret
      exact ⟨by rw [hE.out]; rfl, T, Step.refl _ _ _, by rw [hM.out]; exact hy⟩
  · have hE : Hid (rangedE m s off tr d 0 = leasedE m s off tr) := hide (by
      unfold rangedE
      cases h1 : (m.at s).isSome
      · simp
      · cases h2 : btw d 0 60000
        · exact absurd ⟨h1, h2⟩ hr
        · simp)
    cases ha : m.at s with
    | none =>
      rw [place_none ha]
      have hM : Hid (nackM m s off tr d = m) := hide (by simp [nackM, hE.out, leased_none ha])
      go_wp2_with fail
      refine (yleased_any i b m s off tr _ T hy hok).mono ?_
      rintro e w1 ⟨rfl, hb1⟩
      have f1 : Step (fun t => ∃ r j, t = .y i r j) w0 T w1 T := step_below _ T hb1
      replace hy := hy.step (step_below (fun _ => False) T hb1) (fun _ _ h => h)
      have h10 : Hid (leasedE m s off tr = 10) := hide (leased_none ha)
      rw [h10.out]
      go_wp2
      go_ret
      exact ⟨by rw [hE.out, h10.out]; rfl, T, f1, by rw [hM.out]; exact hy⟩
    | some k0 =>
      rw [place_some ha]
      have hd : 0 ≤ d ∧ d ≤ 60000 := btw_true (by
        cases h2 : btw d 0 60000
        · exact absurd ⟨by simp [ha], h2⟩ hr
        · rfl)
      clear hr
      have hd0 : ¬ d < 0 := by omega
      have hd1 : ¬ 60000 < d := by omega
      go_wp2_with fail
      refine (yleased_any i b m s off tr _ T hy hok).mono ?_
      rintro e w1 ⟨rfl, hb1⟩
      have f1 : Step (fun t => ∃ r j, t = .y i r j) w0 T w1 T := step_below _ T hb1
      replace hy := hy.step (step_below (fun _ => False) T hb1) (fun _ _ h => h)
      by_cases he : leasedE m s off tr = 0
      · obtain ⟨k, n, g, x, ha2, hg, rfl, hx, hn, hK⟩ := leased_found hok he
        have hM : Hid (nackM m s n tr d = m.setI k n { x with till := 0, after := m.time + d }) := hide (by simp [nackM, hE.out, he, onLeased_ok ha2 hg hx])
        have hz : Hid (leasedE m s n tr = 0) := hide he
        rw [he, hK]
        clear he hK
        obtain ⟨gb, gc, gi, ic, c6, d2, ⟨t0, t1, t2, t3⟩, hfz, hfb, ne1, ne2, ne3, l1, l2, l3, c7, c8, hkl, h6, hnl, h400, hset⟩ := hy.item hok hg hx
        have z2 := hfz (n * 4 + 2)
        have z3 := hfz (n * 4 + 3)
        have htm := hok.time
        have hwr : wrap64 (m.time + d) = m.time + d := by unfold wrap64; omega
        clear hb1
        go_wp2_with fail
        go_region
        all_goals
          go_wp2
          go_ret
          obtain ⟨hy2, hs2⟩ := hset 2 (.int .i64 0) { x with till := 0 } (by decide) ((itVals_set g.items n x hx).2.2.1 0)
          have hg2 : (m.setI k n { x with till := 0 }).groups[k]? = some { g with items := g.items.set n { x with till := 0 } } := by simp [setI_group, hg]
          have hx2 : (g.items.set n { x with till := 0 })[n]? = some { x with till := 0 } := by
            have hl := (List.getElem?_eq_some_iff.1 hx).1
            simp [hl]
          obtain ⟨hy3, hs3⟩ := hy2.itemAt (setI_ok hok) hg2 hx2 (gb := gb) (gc := gc) (gi := gi) (ic := ic) (by rw [setI_len]; exact (World.cell?_of_block (Below.heap_setCell _ _ _ _ (fun e => ne1 e.symm))).trans c6) ((World.cell?_of_block (Below.heap_setCell _ _ _ _ (fun e => ne2 e.symm))).trans d2) 3 (.int .i64 (m.time + d)) { x with till := 0, after := m.time + d } (by decide) ((itVals_set _ n _ hx2).2.2.2 (m.time + d))
          rw [setI_twice] at hy3
          refine ⟨?_, T, (f1.trans hs2).trans (hs3.trans (step_below _ T (Below.refl _ _).drew)), ?_⟩
          · rw [hE.out, hz.out]; rfl
          · rw [hM.out]
            exact hy3.step (step_below (fun _ => False) T (Below.refl _ _).drew) (fun _ _ h => h)
      · have hM : Hid (nackM m s off tr d = m) := hide (by simp [nackM, hE.out, he])
        clear hb1
        go_wp2
        go_ret
        exact ⟨by rw [hE.out]; rfl, T, f1, by rw [hM.out]; exact hy⟩

set_option maxRecDepth 100000 in
set_option maxHeartbeats 2000000 in
theorem yextend_any (i b : Nat) (m : MQ) (s : ByteArray) (off tr d : Int) (w : World) (T : Nat → Tag) (hy : YQ w T i b m.rq) (hok : m.Ok) :
    Calls Try.prog 95 #[.pointer (some ⟨b, 0, none⟩), .string s, .int .i64 off, .int .i64 tr, .int .i64 d] w fun e w' => e = .returned (.int .i64 (rangedE m s off tr d 1)) ∧ ∃ T', Step (fun t => ∃ r j, t = .y i r j) w T w' T' ∧ YQ w' T' i b (extendM m s off tr d).rq := by
  go_enter Try.func95, Try.ntmps95
  go_wp2_with fail
  refine (yat_any i b m.rq s w T hy).mono ?_
  rintro e w0 ⟨rfl, rfl⟩
  -- the range
  by_cases hr : (m.at s).isSome = true ∧ btw d 1 60000 = false
  · obtain ⟨k, ha⟩ := Option.isSome_iff_exists.1 hr.1
    rw [place_some ha]
    have hE : Hid (rangedE m s off tr d 1 = 11) := hide (by simp [rangedE, ha, hr.2])
    have hM : Hid (extendM m s off tr d = m) := hide (by simp [extendM, hE.out])
    have hd := btw_false hr.2
    clear hr
    by_cases h0 : d < 1
    · go_wp2
      go_ret
      exact ⟨by rw [hE.out]; rfl, T, Step.refl _ _ _, by rw [hM.out]; exact hy⟩
    · have h1 : 60000 < d := by omega
      go_wp2
      go_ret
      exact ⟨by rw [hE.out]; rfl, T, Step.refl _ _ _, by rw [hM.out]; exact hy⟩
  · have hE : Hid (rangedE m s off tr d 1 = leasedE m s off tr) := hide (by
      unfold rangedE
      cases h1 : (m.at s).isSome
      · simp
      · cases h2 : btw d 1 60000
        · exact absurd ⟨h1, h2⟩ hr
        · simp)
    cases ha : m.at s with
    | none =>
      rw [place_none ha]
      have hM : Hid (extendM m s off tr d = m) := hide (by simp [extendM, hE.out, leased_none ha])
      go_wp2_with fail
      refine (yleased_any i b m s off tr _ T hy hok).mono ?_
      rintro e w1 ⟨rfl, hb1⟩
      have f1 : Step (fun t => ∃ r j, t = .y i r j) w0 T w1 T := step_below _ T hb1
      replace hy := hy.step (step_below (fun _ => False) T hb1) (fun _ _ h => h)
      have h10 : Hid (leasedE m s off tr = 10) := hide (leased_none ha)
      rw [h10.out]
      go_wp2
      go_ret
      exact ⟨by rw [hE.out, h10.out]; rfl, T, f1, by rw [hM.out]; exact hy⟩
    | some k0 =>
      rw [place_some ha]
      have hd : 1 ≤ d ∧ d ≤ 60000 := btw_true (by
        cases h2 : btw d 1 60000
        · exact absurd ⟨by simp [ha], h2⟩ hr
        · rfl)
      clear hr
      have hd0 : ¬ d < 1 := by omega
      have hd1 : ¬ 60000 < d := by omega
      go_wp2_with fail
      refine (yleased_any i b m s off tr _ T hy hok).mono ?_
      rintro e w1 ⟨rfl, hb1⟩
      have f1 : Step (fun t => ∃ r j, t = .y i r j) w0 T w1 T := step_below _ T hb1
      replace hy := hy.step (step_below (fun _ => False) T hb1) (fun _ _ h => h)
      by_cases he : leasedE m s off tr = 0
      · obtain ⟨k, n, g, x, ha2, hg, rfl, hx, hn, hK⟩ := leased_found hok he
        have hM : Hid (extendM m s n tr d = m.setI k n { x with till := m.time + d }) := hide (by simp [extendM, hE.out, he, onLeased_ok ha2 hg hx])
        have hz : Hid (leasedE m s n tr = 0) := hide he
        rw [he, hK]
        clear he hK
        obtain ⟨gb, gc, gi, ic, c6, d2, ⟨t0, t1, t2, t3⟩, hfz, hfb, ne1, ne2, ne3, l1, l2, l3, c7, c8, hkl, h6, hnl, h400, hset⟩ := hy.item hok hg hx
        have z2 := hfz (n * 4 + 2)
        have htm := hok.time
        have hwr : wrap64 (m.time + d) = m.time + d := by unfold wrap64; omega
        clear hb1
        go_wp2_with fail
        go_region
        all_goals
          go_wp2
          go_ret
          obtain ⟨hy2, hs2⟩ := hset 2 (.int .i64 (m.time + d)) { x with till := m.time + d } (by decide) ((itVals_set g.items n x hx).2.2.1 (m.time + d))
          refine ⟨?_, T, (f1.trans hs2).trans (step_below _ T (Below.refl _ _).drew), ?_⟩
          · rw [hE.out, hz.out]; rfl
          · rw [hM.out]
            exact hy2.step (step_below (fun _ => False) T (Below.refl _ _).drew) (fun _ _ h => h)
      · have hM : Hid (extendM m s off tr d = m) := hide (by simp [extendM, hE.out, he])
        clear hb1
        go_wp2
        go_ret
        exact ⟨by rw [hE.out]; rfl, T, f1, by rw [hM.out]; exact hy⟩

def tickE (d : Int) : Int := bif btw d 0 60000 then 0 else 11
def tickM (m : MQ) (d : Int) : MQ := bif btw d 0 60000 then { m with time := m.time + d } else m

set_option maxRecDepth 100000 in
set_option maxHeartbeats 2000000 in
theorem ytick_any (i b : Nat) (m : MQ) (d : Int) (w : World) (T : Nat → Tag) (hy : YQ w T i b m.rq) (hok : m.Ok) :
    Calls Try.prog 96 #[.pointer (some ⟨b, 0, none⟩), .int .i64 d] w fun e w' => e = .returned (.int .i64 (tickE d)) ∧ ∃ T', Step (fun t => ∃ r j, t = .y i r j) w T w' T' ∧ YQ w' T' i b (tickM m d).rq := by
  have hy0 := hy
  obtain ⟨_, _, _, vB, vG, vi, vd, hB, _⟩ := hy
  have c7 := hB.cell (j := 7) rfl
  have z7 := hB.frozen 7
  simp only [List.getElem_toArray, List.getElem_cons_succ, List.getElem_cons_zero] at c7
  have e7 : m.rq.time = m.time := rfl
  rw [e7] at c7
  have htm := hok.time
  clear hB e7
  by_cases h0 : d < 0
  · have hb : Hid (btw d 0 60000 = false) := hide (by simp [btw]; omega)
    go_enter Try.func96, Try.ntmps96
    go_wp2
    go_ret
    exact ⟨by rw [tickE, hb.out]; rfl, T, Step.refl _ _ _, by rw [show tickM m d = m by simp [tickM, hb.out]]; exact hy0⟩
  by_cases h1 : 60000 < d
  · have hb : Hid (btw d 0 60000 = false) := hide (by simp [btw]; omega)
    go_enter Try.func96, Try.ntmps96
    go_wp2
    go_ret
    exact ⟨by rw [tickE, hb.out]; rfl, T, Step.refl _ _ _, by rw [show tickM m d = m by simp [tickM, hb.out]]; exact hy0⟩
  · have hb : Hid (btw d 0 60000 = true) := hide (by simp [btw]; omega)
    have hwr : wrap64 (m.time + d) = m.time + d := by unfold wrap64; omega
    go_enter Try.func96, Try.ntmps96
    go_wp2
    go_ret
    obtain ⟨h2, h3⟩ := hy0.setTime (m.time + d)
    exact ⟨by rw [tickE, hb.out]; rfl, T, h3, by rw [show tickM m d = { m with time := m.time + d } by simp [tickM, hb.out]]; exact h2⟩

end Go.Proofs.Ytgcbooflhdjnhaa

/- The contract of the program's ready: two channels, filled ahead with what may be delivered. -/
import Derived.Test.YtgcbooflhdjnhaaT23
import Derived.Deep.RegionHeld3
namespace Go.Proofs.Ytgcbooflhdjnhaa
open Go.RowKit Go.Maps Go.Conc

theorem infoI : (Try.prog.info? 3).map (fun i => (i.zero, i.size, i.bytes)) = some (some (.int .i64 0), 1, 8) := by kernel_rfl
theorem mkChan (n : Nat) (hn : n ≤ 400) (w : World) : (Instr.makeChan 147 (.int .i64 (n : Int))).run Try.prog w = .ok (.chan (some w.heap.size)) (w.alloc (.chan n #[] false 0 0 false)) := by
  obtain ⟨i0, hi, hz0, hz1, hz2⟩ := info_parts infoI
  exact run_makeChan Try.underlying147 hi .i64 n (by omega) (by rw [hz2]; omega)

theorem chans_new (w : World) (T : Nat → Tag) (K : Nat) (t u : Tag) : ∃ T', Step (fun _ => False) w T ((w.alloc (.chan K #[] false 0 0 false)).alloc (.chan K #[] false 0 0 false)).drew T' ∧
    Ch ((w.alloc (.chan K #[] false 0 0 false)).alloc (.chan K #[] false 0 0 false)).drew T' t w.heap.size K [] ∧ Ch ((w.alloc (.chan K #[] false 0 0 false)).alloc (.chan K #[] false 0 0 false)).drew T' u (w.heap.size + 1) K [] := by
  have a1 := step_new w T (.chan K #[] false 0 0 false) t (fun _ => False)
  have b1 : Ch (w.alloc (.chan K #[] false 0 0 false)) (retag T w.heap.size t) t w.heap.size K [] := ⟨retag_same _ _ _, 0, 0, heap_alloc_new w _⟩
  generalize hw1 : w.alloc (.chan K #[] false 0 0 false) = w1 at *
  have z1 : w1.heap.size = w.heap.size + 1 := by rw [← hw1]; simp
  generalize retag T w.heap.size t = T1 at *
  have a2 := step_new w1 T1 (.chan K #[] false 0 0 false) u (fun _ => False)
  have b2 : Ch (w1.alloc (.chan K #[] false 0 0 false)) (retag T1 w1.heap.size u) u w1.heap.size K [] := ⟨retag_same _ _ _, 0, 0, heap_alloc_new w1 _⟩
  have a3 := a2.trans (step_below (fun _ => False) _ (Below.refl _ _).drew)
  rw [z1] at a3 b2
  exact ⟨_, a1.trans a3, b1.step a3 (fun h => h), b2⟩

theorem buf_push (l : List Nat) (n : Nat) : (l.map natV).toArray.push (.int .i64 n) = ((l ++ [n]).map natV).toArray := by simp [natV]
theorem Ch.sent {w : World} {T : Nat → Tag} {t : Tag} {c cap : Nat} {l : List Nat} (h : Ch w T t c cap l) (n s r : Nat) : Ch (w.setChan c cap ((l.map natV).toArray.push (.int .i64 n)) false s r false) T t c cap (l ++ [n]) ∧ Step (fun u => u = t) w T (w.setChan c cap ((l.map natV).toArray.push (.int .i64 n)) false s r false) T := by
  rw [buf_push]
  exact ⟨⟨h.1, s, r, heap_setChan w c cap _ false s r false h.lt⟩, step_setChan w T c cap _ s r h.1⟩
/-- what was there before stays, while a new channel is written -/
theorem Step.chan {w w1 : World} {T T1 : Nat → Tag} (h : Step (fun _ => False) w T w1 T1) {c : Nat} (hc : w.heap.size ≤ c) (cap : Nat) (buf : Array Value) (s r : Nat) : Step (fun _ => False) w T (w1.setChan c cap buf false s r false) T1 :=
  ⟨h.os, h.tape, h.output, by simpa [World.setChan] using h.size, h.tag, fun i hi hS => by
    simp only [World.setChan]
    rw [Array.getElem?_setIfInBounds_ne (by omega)]
    exact h.block i hi hS⟩

theorem wt_getD (o : Option (Int × Bool)) : ∃ u1 u2, o.getD (0, false) = (u1, u2) := ⟨_, _, rfl⟩

set_option maxRecDepth 100000 in
set_option maxHeartbeats 2000000 in
theorem ready_any (i k b gb : Nat) (m : MQ) (g : MG) (p : PG) (vB vM : Value) (w : World) (T : Nat → Tag)
    (hB : Blk w T (.q i 0 0) b #[.int .i64 m.c.l, .int .i64 m.c.d, .int .i64 m.c.s, .int .i64 m.c.k, .int .i64 m.time, .int .i64 m.floor, vB, vM] 105) (hS : Sub w T (.q i 1 0) vB ((m.bodies.drop m.floor.toNat).map .string))
    (hG : GM w T i k gb p) (hr : RelG m g p) (hi : InvG m g) (hl : g.items.length = m.bodies.length) (hsm : m.bodies.length ≤ 400) (h0 : 0 ≤ m.floor) (h1 : m.floor ≤ m.bodies.length) (h2 : 0 ≤ g.start) (h3 : g.start ≤ m.bodies.length) :
    Calls Try.prog 97 #[.pointer (some ⟨b, 0, none⟩), .pointer (some ⟨gb, 0, none⟩)] w fun e w' => ∃ ca cf, e = .returned (.tuple #[.chan (some ca), .chan (some cf)]) ∧
      ∃ T', Step (fun _ => False) w T w' T' ∧ Ch w' T' (.q i 0 1) ca (m.bodies.length - m.floor.toNat) (againTo m g m.bodies.length) ∧ Ch w' T' (.q i 0 2) cf (m.bodies.length - m.floor.toNat) (newTo m g m.bodies.length) := by
  obtain ⟨ao, cap, rfl, hcap, _⟩ := hS
  have hlx : ((m.bodies.drop m.floor.toNat).map Value.string).length = m.bodies.length - m.floor.toNat := by simp
  rw [hlx] at hB
  obtain ⟨K, hK⟩ : ∃ K, Hid (K = m.bodies.length - m.floor.toNat) := ⟨_, hide rfl⟩
  rw [← hK.out] at hB ⊢
  have hK4 : K ≤ 400 := by rw [hK.out]; omega
  have hfk : m.floor + (K : Int) = m.bodies.length := by rw [hK.out]; omega
  have hmc := mkChan K hK4
  have lb := hB.lt
  have c5 := hB.cell (j := 5) rfl
  have c6 := hB.cell (j := 6) rfl
  simp only [List.getElem_toArray, List.getElem_cons_succ, List.getElem_cons_zero] at c5 c6
  -- the first offset
  obtain ⟨a, ha⟩ : ∃ a : Nat, max m.floor g.start = a := ⟨(max m.floor g.start).toNat, by omega⟩
  have hlow : Hid (∀ v, v < a → candB m g v = false) := hide (fun v hv => candB_low (by omega))
  have hst := hr.start
  go_enter Try.func97, Try.ntmps97
  go_wp2_with fail
  go_cut [4, 5] from 9 to 21 (fun u4 u5 w' => ∃ ca cf, u4 = .chan (some ca) ∧ u5 = .chan (some cf) ∧ w.heap.size ≤ ca ∧ w.heap.size ≤ cf ∧ ∃ T', Step (fun _ => False) w T w' T' ∧ Ch w' T' (.q i 0 1) ca K [] ∧ Ch w' T' (.q i 0 2) cf K [])
  case first =>
    obtain ⟨T1, q1, q2, q3⟩ := chans_new w T K (.q i 0 1) (.q i 0 2)
    obtain ⟨T2, p1, p2, p3⟩ := chans_new w T K (.q i 0 2) (.q i 0 1)
    go_region_held3 (fun w' => w'.cell? ⟨b, 6, none⟩ = some (.slice ao K cap)) (go_keep) (fail)
    · go_wp2_with fail
      go_meet
      exact ⟨_, _, rfl, rfl, Nat.le_refl _, Nat.le_succ _, T1, q1, q2, q3⟩
    · go_wp2_with fail
      go_meet
      exact ⟨_, _, rfl, rfl, Nat.le_succ _, Nat.le_refl _, T2, p1, p3, p2⟩
  case rest =>
    obtain ⟨ca, cf, rfl, rfl, ha8, ha9, T1, hs1, hA1, hF1⟩ := hcut
    generalize wc = w1 at *
    clear hmc c5 c6 lb
    have hB1 := hB.step hs1 (fun h => h)
    have hG1 := hG.step hs1 (fun _ _ h => h)
    have l1 := hB1.lt
    have l2 := hG1.lt
    have c5 := hB1.cell (j := 5) rfl
    simp only [List.getElem_toArray, List.getElem_cons_succ, List.getElem_cons_zero] at c5
    go_wp2_with fail
    refine (qfirst_any b gb m.floor p.start w1 l1 l2 c5 hG1.start).mono ?_
    rintro e w2 ⟨rfl, hb2⟩
    rw [hst, ha]
    have hs2 := hs1.trans (step_below (fun _ => False) T1 hb2)
    have hA2 := hA1.step (step_below (fun _ => False) T1 hb2) (fun h => h)
    have hF2 := hF1.step (step_below (fun _ => False) T1 hb2) (fun h => h)
    clear hb2 hA1 hF1 hB1 hG1 l1 l2 c5 hs1
    go_wp2_with fail
    go_loopw [6] (fun u6 wr => ∃ (n : Nat) (T' : Nat → Tag), a ≤ n ∧ n ≤ m.bodies.length ∧ u6 = .int .i64 n ∧ Step (fun _ => False) w T wr T' ∧ Ch wr T' (.q i 0 1) ca K (againTo m g n) ∧ Ch wr T' (.q i 0 2) cf K (newTo m g n)) (fun u6 _ => m.bodies.length - (intOf u6).toNat)
    case atStart =>
      refine ⟨a, T1, Nat.le_refl _, by omega, rfl, hs2, ?_, ?_⟩
      · rw [againTo_low hlow.out]; exact hA2
      · rw [newTo_low hlow.out]; exact hF2
    case round =>
      obtain ⟨n, T', hn1, hn2, rfl, hs, hA, hF⟩ := hrel
      clear hA2 hF2 hs2
      have hBr := hB.step hs (fun h => h)
      have hGr := hG.step hs (fun _ _ h => h)
      have l1 := hBr.lt
      have c5 := hBr.cell (j := 5) rfl
      have c6 := hBr.cell (j := 6) rfl
      simp only [List.getElem_toArray, List.getElem_cons_succ, List.getElem_cons_zero] at c5 c6
      go_wp2_with fail
      refine (qend_any b m.floor ao K cap wr l1 c5 c6 h0 (by omega) hK4).mono ?_
      rintro e w3 ⟨rfl, hb3⟩
      rw [hfk]
      have g3 := step_below (fun _ => False) T' hb3
      have hs3 := hs.trans g3
      have hA3 := hA.step g3 (fun h => h)
      have hF3 := hF.step g3 (fun h => h)
      have hG3 := hGr.step g3 (fun _ _ h => h)
      clear hb3 g3 hs hA hF hGr hBr l1 c5 c6
      by_cases hlt : n < m.bodies.length
      · obtain ⟨x, hx⟩ : ∃ x, g.items[n]? = some x := ⟨_, List.getElem?_eq_getElem (by omega)⟩
        have hi64 : i64 (n : Int) := ⟨by omega, by omega⟩
        have hcw : Hid (candB m g n = !((p.wt n).isSome || hasB p.done n)) := hide (cand_words hr hx (by omega) (by omega))
        have hfewA : Hid ((againTo m g n).length < K ∧ (newTo m g n).length < K) := hide (by
          have q1 := againTo_few (m := m) (g := g) (k := n) hlow.out
          have q2 := newTo_few (m := m) (g := g) (k := n) hlow.out
          rw [hK.out]
          omega)
        have hG3k := hG3
        obtain ⟨vD, vE, tb, wb, hBg, hD, hE, hT, hW⟩ := hG3
        have lg := hBg.lt
        have d4 := hBg.cell (j := 4) rfl
        simp only [List.getElem_toArray, List.getElem_cons_succ, List.getElem_cons_zero] at d4
        obtain ⟨u1, u2, hu⟩ := wt_getD (p.wt n)
        have lkW : (Instr.lookup 129 (.map (some wb)) (.int .i64 (n : Int)) true).run Try.prog w3 = .ok (.tuple #[.agg #[.int .i64 u1, .bool u2], .bool (p.wt n).isSome]) w3 := by
          have := (hW.look hi64).2
          rw [hu] at this
          exact this
        have hal := step_alloc w3 T' (.cells #[.int .i64 u1, .bool u2] 158) (fun _ => False)
        cases hw : (p.wt n).isSome
        · -- it does not wait
          rw [hw] at lkW
          go_wp2_with fail
          refine (isDone_any i k gb p n _ T' (hG3k.step hal (fun _ _ h => h)) hr.set).mono ?_
          rintro e w4 ⟨rfl, hb4⟩
          have g4 := hal.trans (step_below (fun _ => False) T' hb4)
          have hs4 := hs3.trans g4
          have hA4 := hA3.step g4 (fun h => h)
          have hF4 := hF3.step g4 (fun h => h)
          have hB4 := hBg.step g4 (fun h => h)
          have hT4 := hT.step g4 (fun h => h)
          clear hb4 hal g4 hA3 hF3 hs3 hG3k hBg hD hE hT hW lg d4 lkW
          cases hd : hasB p.done n
          · -- it may be delivered
            have hc : Hid (candB m g n = true) := hide (by rw [hcw.out, hw, hd]; rfl)
            have hlv : Hid (p.tr n = x.tries) := hide (by
              have q := hr.done n
              rw [hd, doneB_at, itemAt_nat, hx] at q
              have q2 : ¬ 0 < x.done := by simpa using q.symm
              rw [hr.tr, itemAt_nat, hx]
              simp [triesOf, q2])
            have htp := (hi.tries x (List.mem_of_getElem? hx)).1
            have l4 := hB4.lt
            have d3 := hB4.cell (j := 3) rfl
            simp only [List.getElem_toArray, List.getElem_cons_succ, List.getElem_cons_zero] at d3
            have lkT := hT4.look hi64
            rw [hlv.out] at lkT
            by_cases ht : 0 < x.tries
            · obtain ⟨eA, eF⟩ := againTo_yes hc.out hx (by omega)
              obtain ⟨s0, r0, hch⟩ := hA4.2
              obtain ⟨hA5, q5⟩ := hA4.sent n (s0 + 1) r0
              have hF5 := hF4.step q5 (by simp)
              have hs5 := hs4.chan ha8 K (((againTo m g n).map natV).toArray.push (.int .i64 n)) (s0 + 1) r0
              rw [← eA] at hA5
              rw [← eF] at hF5
              clear eA eF
              go_upto_region 8 with (fail)
              refine wp_region_S ?_
              change wpS Try.prog _ _ [0, 1, 2] _ _
              refine wpS_value rfl rfl (v := .chan (some ca)) (by simp [go_sem, execOp, Act.eval]; rfl) ?_
              refine wpS_value rfl rfl (v := .int .i64 n) (by simp [go_sem, execOp, Act.eval, Act.put]; rfl) ?_
              refine wpS_send (c := ca) (cap := K) (s := s0) (r := r0) (tm := false) (v := .int .i64 n) (z := .tuple #[]) rfl rfl (by simp [go_sem, execOp, scase, Act.eval, Act.put]) hch (by simpa using hfewA.out.1) ?_
              refine wpS_nil ?_
              generalize w4.setChan ca K (((againTo m g n).map natV).toArray.push (.int .i64 n)) false (s0 + 1) r0 false = w5 at *
              go_frame
              go_wp2
              refine ⟨⟨n + 1, T', by omega, by omega, by simp, hs5, hA5, hF5⟩, by simp [intOf]; omega⟩
            · obtain ⟨eA, eF⟩ := newTo_yes hc.out hx (by omega)
              obtain ⟨s0, r0, hch⟩ := hF4.2
              obtain ⟨hF5, q5⟩ := hF4.sent n (s0 + 1) r0
              have hA5 := hA4.step q5 (by simp)
              have hs5 := hs4.chan ha9 K (((newTo m g n).map natV).toArray.push (.int .i64 n)) (s0 + 1) r0
              rw [← eF] at hF5
              rw [← eA] at hA5
              clear eA eF
              go_upto_region 9 with (fail)
              refine wp_region_S ?_
              change wpS Try.prog _ _ [0, 1, 2] _ _
              refine wpS_value rfl rfl (v := .chan (some cf)) (by simp [go_sem, execOp, Act.eval]; rfl) ?_
              refine wpS_value rfl rfl (v := .int .i64 n) (by simp [go_sem, execOp, Act.eval, Act.put]; rfl) ?_
              refine wpS_send (c := cf) (cap := K) (s := s0) (r := r0) (tm := false) (v := .int .i64 n) (z := .tuple #[]) rfl rfl (by simp [go_sem, execOp, scase, Act.eval, Act.put]) hch (by simpa using hfewA.out.2) ?_
              refine wpS_nil ?_
              generalize w4.setChan cf K (((newTo m g n).map natV).toArray.push (.int .i64 n)) false (s0 + 1) r0 false = w5 at *
              go_frame
              go_wp2
              refine ⟨⟨n + 1, T', by omega, by omega, by simp, hs5, hA5, hF5⟩, by simp [intOf]; omega⟩
          · have hc : candB m g n = false := by rw [hcw.out, hw, hd]; rfl
            have eA := againTo_skip hc
            have eF := newTo_skip hc
            rw [← eA] at hA4
            rw [← eF] at hF4
            clear eA eF hc
            go_wp2
            refine ⟨⟨n + 1, T', by omega, by omega, by simp, hs4, hA4, hF4⟩, by simp [intOf]; omega⟩
        · have hc : candB m g n = false := by rw [hcw.out, hw]; rfl
          have hA4 := hA3.step hal (fun h => h)
          have hF4 := hF3.step hal (fun h => h)
          have hs4 := hs3.trans hal
          have eA := againTo_skip hc
          have eF := newTo_skip hc
          rw [← eA] at hA4
          rw [← eF] at hF4
          rw [hw] at lkW
          clear eA eF hc
          go_wp2
          refine ⟨⟨n + 1, T', by omega, by omega, by simp, hs4, hA4, hF4⟩, by simp [intOf]; omega⟩
      · have hn : n = m.bodies.length := by omega
        subst hn
        go_wp2
        go_ret2
        exact ⟨ca, cf, rfl, T', hs3, hA3, hF3⟩

end Go.Proofs.Ytgcbooflhdjnhaa

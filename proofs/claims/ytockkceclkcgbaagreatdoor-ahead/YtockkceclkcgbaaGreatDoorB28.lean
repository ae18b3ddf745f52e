/- The contract of the program's ready: two channels, filled ahead with what may be delivered. -/
import Derived.Test.YtockkceclkcgbaaGreatDoorB27
import Derived.Deep.RegionHeld3
namespace Go.Proofs.YtockkceclkcgbaaGreatDoor
open Go.RowKit Go.Maps Go.Conc

theorem infoI : (Tryz.prog.info? 3).map (fun i => (i.zero, i.size, i.bytes)) = some (some (.int .i64 0), 1, 8) := by kernel_rfl
theorem mkChan (n : Nat) (hn : n ≤ 400) (w : World) : (Instr.makeChan 137 (.int .i64 (n : Int))).run Tryz.prog w = .ok (.chan (some w.heap.size)) (w.alloc (.chan n #[] false 0 0 false)) := by
  obtain ⟨i0, hi, hz0, hz1, hz2⟩ := info_parts infoI
  exact run_makeChan Tryz.underlying137 hi .i64 n (by omega) (by rw [hz2]; omega)

theorem chans_new (w : World) (T : Nat → Tag) (K : Nat) (t u : Tag) : ∃ T', Step (fun _ => False) w T ((w.alloc (.chan K #[] false 0 0 false)).alloc (.chan K #[] false 0 0 false)).drew T' ∧
    Ch ((w.alloc (.chan K #[] false 0 0 false)).alloc (.chan K #[] false 0 0 false)).drew T' t w.heap.size K [] ∧ Ch ((w.alloc (.chan K #[] false 0 0 false)).alloc (.chan K #[] false 0 0 false)).drew T' u (w.heap.size + 1) K [] := by
  have a1 := step_new w T (.chan K #[] false 0 0 false) t (fun _ => False)
  have b1 : Ch (w.alloc (.chan K #[] false 0 0 false)) (retag T w.heap.size t) t w.heap.size K [] := ⟨retag_same _ _ _, 0, 0, heap_alloc_new w _⟩
  generalize hw1 : w.alloc (.chan K #[] false 0 0 false) = w1 at *
  have z1 : w1.heap.size = w.heap.size + 1 := by rw [← hw1]; simp
  generalize retag T w.heap.size t = T1 at *
  have a2 := step_new w1 T1 (.chan K #[] false 0 0 false) u (fun _ => False)
  have b2 : Ch (w1.alloc (.chan K #[] false 0 0 false)) (retag T1 w1.heap.size u) u w1.heap.size K [] := ⟨retag_same _ _ _, 0, 0, heap_alloc_new w1 _⟩
  have a3 := a2.trans (step_below (fun _ => False) _ (Below.refl _ _).drew)
  rw [z1] at a3 b2
  exact ⟨_, a1.trans a3, b1.step a3 (fun h => h), b2⟩

theorem buf_push (l : List Nat) (n : Nat) : (l.map natV).toArray.push (.int .i64 n) = ((l ++ [n]).map natV).toArray := by simp [natV]
theorem Ch.sent {w : World} {T : Nat → Tag} {t : Tag} {c cap : Nat} {l : List Nat} (h : Ch w T t c cap l) (n s r : Nat) : Ch (w.setChan c cap ((l.map natV).toArray.push (.int .i64 n)) false s r false) T t c cap (l ++ [n]) ∧ Step (fun u => u = t) w T (w.setChan c cap ((l.map natV).toArray.push (.int .i64 n)) false s r false) T := by
  rw [buf_push]
  exact ⟨⟨h.1, s, r, heap_setChan w c cap _ false s r false h.lt⟩, step_setChan w T c cap _ s r h.1⟩
/-- what was there before stays, while a new channel is written -/
theorem Step.chan {w w1 : World} {T T1 : Nat → Tag} (h : Step (fun _ => False) w T w1 T1) {c : Nat} (hc : w.heap.size ≤ c) (cap : Nat) (buf : Array Value) (s r : Nat) : Step (fun _ => False) w T (w1.setChan c cap buf false s r false) T1 :=
  ⟨h.os, h.tape, h.output, by simpa [World.setChan] using h.size, h.tag, fun i hi hS => by
    simp only [World.setChan]
    rw [Array.getElem?_setIfInBounds_ne (by omega)]
    exact h.block i hi hS⟩

theorem wt_getD (o : Option (Int × Bool)) : ∃ u1 u2, o.getD (0, false) = (u1, u2) := ⟨_, _, rfl⟩

set_option maxRecDepth 100000 in
set_option maxHeartbeats 2000000 in
theorem ready_any (i k b gb : Nat) (m : MQ) (g : MG) (p : PG) (vB vM vL vS : Value) (w : World) (T : Nat → Tag)
    (hB : Blk w T (.q i 0 0) b #[.int .i64 m.c.l, .int .i64 m.c.d, .int .i64 m.c.s, .int .i64 m.c.k, .int .i64 m.time, .int .i64 m.floor, vB, vM, vL, vS] 105) (hS : Sub w T (.q i 1 0) vB ((m.bodies.drop m.floor.toNat).map .string))
    (hG : GM w T i k gb p) (hr : RelG m g p) (hi : InvG m g) (hl : g.items.length = m.bodies.length) (hsm : m.bodies.length ≤ 400) (h0 : 0 ≤ m.floor) (h1 : m.floor ≤ m.bodies.length) (h2 : 0 ≤ g.start) (h3 : g.start ≤ m.bodies.length) :
    Calls Tryz.prog 69 #[.pointer (some ⟨b, 0, none⟩), .pointer (some ⟨gb, 0, none⟩)] w fun e w' => ∃ ca cf, e = .returned (.tuple #[.chan (some ca), .chan (some cf)]) ∧
      ∃ T', Step (fun _ => False) w T w' T' ∧ Ch w' T' (.q i 0 1) ca (m.bodies.length - m.floor.toNat) (againTo m g m.bodies.length) ∧ Ch w' T' (.q i 0 2) cf (m.bodies.length - m.floor.toNat) (newTo m g m.bodies.length) := by
  obtain ⟨ao, cap, rfl, hcap, _⟩ := hS
  have hlx : ((m.bodies.drop m.floor.toNat).map Value.string).length = m.bodies.length - m.floor.toNat := by simp
  rw [hlx] at hB
  obtain ⟨K, hK⟩ : ∃ K, Hid (K = m.bodies.length - m.floor.toNat) := ⟨_, hide rfl⟩
  rw [← hK.out] at hB ⊢
  have hK4 : K ≤ 400 := by rw [hK.out]; omega
  have hfk : m.floor + (K : Int) = m.bodies.length := by rw [hK.out]; omega
  have hmc := mkChan K hK4
  have lb := hB.lt
  have c5 := hB.cell (j := 5) rfl
  have c6 := hB.cell (j := 6) rfl
  simp only [List.getElem_toArray, List.getElem_cons_succ, List.getElem_cons_zero] at c5 c6
  -- the first offset
  obtain ⟨a, ha⟩ : ∃ a : Nat, max m.floor g.start = a := ⟨(max m.floor g.start).toNat, by omega⟩
  have hlow : Hid (∀ v, v < a → candB m g v = false) := hide (fun v hv => candB_low (by omega))
  have hst := hr.start
  go_enter Tryz.func69, Tryz.ntmps69
  go_wp2_with fail
  go_cut [4, 5] from 9 to 21 (fun u4 u5 w' => ∃ ca cf, u4 = .chan (some ca) ∧ u5 = .chan (some cf) ∧ w.heap.size ≤ ca ∧ w.heap.size ≤ cf ∧ ∃ T', Step (fun _ => False) w T w' T' ∧ Ch w' T' (.q i 0 1) ca K [] ∧ Ch w' T' (.q i 0 2) cf K [])
  case first =>
    obtain ⟨T1, q1, q2, q3⟩ := chans_new w T K (.q i 0 1) (.q i 0 2)
    obtain ⟨T2, p1, p2, p3⟩ := chans_new w T K (.q i 0 2) (.q i 0 1)
    go_region_held3 (fun w' => w'.cell? ⟨b, 6, none⟩ = some (.slice ao K cap)) (go_keep) (fail)
    · go_wp2_with fail
      go_meet
      exact ⟨_, _, rfl, rfl, Nat.le_refl _, Nat.le_succ _, T1, q1, q2, q3⟩
    · go_wp2_with fail
      go_meet
      exact ⟨_, _, rfl, rfl, Nat.le_succ _, Nat.le_refl _, T2, p1, p3, p2⟩
  case rest =>
    obtain ⟨ca, cf, rfl, rfl, ha8, ha9, T1, hs1, hA1, hF1⟩ := hcut
    generalize wc = w1 at *
    clear hmc c5 c6 lb
    have hB1 := hB.step hs1 (fun h => h)
    have hG1 := hG.step hs1 (fun _ _ h => h)
    have l1 := hB1.lt
    have l2 := hG1.lt
    have c5 := hB1.cell (j := 5) rfl
    simp only [List.getElem_toArray, List.getElem_cons_succ, List.getElem_cons_zero] at c5
    go_wp2_with fail
    refine (qfirst_any b gb m.floor p.start w1 l1 l2 c5 hG1.start).mono ?_
    rintro e w2 ⟨rfl, hb2⟩
    rw [hst, ha]
    have hs2 := hs1.trans (step_below (fun _ => False) T1 hb2)
    have hA2 := hA1.step (step_below (fun _ => False) T1 hb2) (fun h => h)
    have hF2 := hF1.step (step_below (fun _ => False) T1 hb2) (fun h => h)
    clear hb2 hA1 hF1 hB1 hG1 l1 l2 c5 hs1
    go_wp2_with fail
    go_loopw [6] (fun u6 wr => ∃ (n : Nat) (T' : Nat → Tag), a ≤ n ∧ n ≤ m.bodies.length ∧ u6 = .int .i64 n ∧ Step (fun _ => False) w T wr T' ∧ Ch wr T' (.q i 0 1) ca K (againTo m g n) ∧ Ch wr T' (.q i 0 2) cf K (newTo m g n)) (fun u6 _ => m.bodies.length - (intOf u6).toNat)
    case atStart =>
      refine ⟨a, T1, Nat.le_refl _, by omega, rfl, hs2, ?_, ?_⟩
      · rw [againTo_low hlow.out]; exact hA2
      · rw [newTo_low hlow.out]; exact hF2
    case round =>
      obtain ⟨n, T', hn1, hn2, rfl, hs, hA, hF⟩ := hrel
      clear hA2 hF2 hs2
      have hBr := hB.step hs (fun h => h)
      have hGr := hG.step hs (fun _ _ h => h)
      have l1 := hBr.lt
      have c5 := hBr.cell (j := 5) rfl
      have c6 := hBr.cell (j := 6) rfl
      simp only [List.getElem_toArray, List.getElem_cons_succ, List.getElem_cons_zero] at c5 c6
      go_wp2_with fail
      refine (qend_any b m.floor ao K cap wr l1 c5 c6 h0 (by omega) hK4).mono ?_
      rintro e w3 ⟨rfl, hb3⟩
      rw [hfk]
      have g3 := step_below (fun _ => False) T' hb3
      have hs3 := hs.trans g3
      have hA3 := hA.step g3 (fun h => h)
      have hF3 := hF.step g3 (fun h => h)
      have hG3 := hGr.step g3 (fun _ _ h => h)
      clear hb3 g3 hs hA hF hGr hBr l1 c5 c6
      by_cases hlt : n < m.bodies.length
      · obtain ⟨x, hx⟩ : ∃ x, g.items[n]? = some x := ⟨_, List.getElem?_eq_getElem (by omega)⟩
        have hi64 : i64 (n : Int) := ⟨by omega, by omega⟩
        have hcw : Hid (candB m g n = !((p.wt n).isSome || hasB p.done n)) := hide (cand_words hr hx (by omega) (by omega))
        have hfewA : Hid ((againTo m g n).length < K ∧ (newTo m g n).length < K) := hide (by
          have q1 := againTo_few (m := m) (g := g) (k := n) hlow.out
          have q2 := newTo_few (m := m) (g := g) (k := n) hlow.out
          rw [hK.out]
          omega)
        have hG3k := hG3
        obtain ⟨vD, vE, tb, wb, hBg, hD, hE, hT, hW⟩ := hG3
        have lg := hBg.lt
        have d4 := hBg.cell (j := 4) rfl
        simp only [List.getElem_toArray, List.getElem_cons_succ, List.getElem_cons_zero] at d4
        obtain ⟨u1, u2, hu⟩ := wt_getD (p.wt n)
        have lkW : (Instr.lookup 132 (.map (some wb)) (.int .i64 (n : Int)) true).run Tryz.prog w3 = .ok (.tuple #[.agg #[.int .i64 u1, .bool u2], .bool (p.wt n).isSome]) w3 := by
          have := (hW.look hi64).2
          rw [hu] at this
          exact this
        have hal := step_alloc w3 T' (.cells #[.int .i64 u1, .bool u2] 177) (fun _ => False)
        cases hw : (p.wt n).isSome
        · -- it does not wait
          rw [hw] at lkW
          go_wp2_with fail
          refine (isDone_any i k gb p n _ T' (hG3k.step hal (fun _ _ h => h)) hr.set).mono ?_
          rintro e w4 ⟨rfl, hb4⟩
          have g4 := hal.trans (step_below (fun _ => False) T' hb4)
          have hs4 := hs3.trans g4
          have hA4 := hA3.step g4 (fun h => h)
          have hF4 := hF3.step g4 (fun h => h)
          have hB4 := hBg.step g4 (fun h => h)
          have hT4 := hT.step g4 (fun h => h)
          clear hb4 hal g4 hA3 hF3 hs3 hG3k hBg hD hE hT hW lg d4 lkW
          cases hd : hasB p.done n
          · -- it may be delivered
            have hc : Hid (candB m g n = true) := hide (by rw [hcw.out, hw, hd]; rfl)
            have hlv : Hid (p.tr n = x.tries) := hide (by
              have q := hr.done n
              rw [hd, doneB_at, itemAt_nat, hx] at q
              have q2 : ¬ 0 < x.done := by simpa using q.symm
              rw [hr.tr, itemAt_nat, hx]
              simp [triesOf, q2])
            have htp := (hi.tries x (List.mem_of_getElem? hx)).1
            have l4 := hB4.lt
            have d3 := hB4.cell (j := 3) rfl
            simp only [List.getElem_toArray, List.getElem_cons_succ, List.getElem_cons_zero] at d3
            have lkT := hT4.look hi64
            rw [hlv.out] at lkT
            by_cases ht : 0 < x.tries
            · obtain ⟨eA, eF⟩ := againTo_yes hc.out hx (by omega)
              obtain ⟨s0, r0, hch⟩ := hA4.2
              obtain ⟨hA5, q5⟩ := hA4.sent n (s0 + 1) r0
              have hF5 := hF4.step q5 (by simp)
              have hs5 := hs4.chan ha8 K (((againTo m g n).map natV).toArray.push (.int .i64 n)) (s0 + 1) r0
              rw [← eA] at hA5
              rw [← eF] at hF5
              clear eA eF
              go_upto_region 8 with (fail)
              refine wp_region_S ?_
              change wpS Tryz.prog _ _ [0, 1, 2] _ _
              refine wpS_value rfl rfl (v := .chan (some ca)) (by simp [go_sem, execOp, Act.eval]; rfl) ?_
              refine wpS_value rfl rfl (v := .int .i64 n) (by simp [go_sem, execOp, Act.eval, Act.put]; rfl) ?_
              refine wpS_send (c := ca) (cap := K) (s := s0) (r := r0) (tm := false) (v := .int .i64 n) (z := .tuple #[]) rfl rfl (by simp [go_sem, execOp, scase, Act.eval, Act.put]) hch (by simpa using hfewA.out.1) ?_
              refine wpS_nil ?_
              generalize w4.setChan ca K (((againTo m g n).map natV).toArray.push (.int .i64 n)) false (s0 + 1) r0 false = w5 at *
              go_frame
              go_wp2
              refine ⟨⟨n + 1, T', by omega, by omega, by simp, hs5, hA5, hF5⟩, by simp [intOf]; omega⟩
            · obtain ⟨eA, eF⟩ := newTo_yes hc.out hx (by omega)
              obtain ⟨s0, r0, hch⟩ := hF4.2
              obtain ⟨hF5, q5⟩ := hF4.sent n (s0 + 1) r0
              have hA5 := hA4.step q5 (by simp)
              have hs5 := hs4.chan ha9 K (((newTo m g n).map natV).toArray.push (.int .i64 n)) (s0 + 1) r0
              rw [← eF] at hF5
              rw [← eA] at hA5
              clear eA eF
              go_upto_region 9 with (fail)
              refine wp_region_S ?_
              change wpS Tryz.prog _ _ [0, 1, 2] _ _
              refine wpS_value rfl rfl (v := .chan (some cf)) (by simp [go_sem, execOp, Act.eval]; rfl) ?_
              refine wpS_value rfl rfl (v := .int .i64 n) (by simp [go_sem, execOp, Act.eval, Act.put]; rfl) ?_
              refine wpS_send (c := cf) (cap := K) (s := s0) (r := r0) (tm := false) (v := .int .i64 n) (z := .tuple #[]) rfl rfl (by simp [go_sem, execOp, scase, Act.eval, Act.put]) hch (by simpa using hfewA.out.2) ?_
              refine wpS_nil ?_
              generalize w4.setChan cf K (((newTo m g n).map natV).toArray.push (.int .i64 n)) false (s0 + 1) r0 false = w5 at *
              go_frame
              go_wp2
              refine ⟨⟨n + 1, T', by omega, by omega, by simp, hs5, hA5, hF5⟩, by simp [intOf]; omega⟩
          · have hc : candB m g n = false := by rw [hcw.out, hw, hd]; rfl
            have eA := againTo_skip hc
            have eF := newTo_skip hc
            rw [← eA] at hA4
            rw [← eF] at hF4
            clear eA eF hc
            go_wp2
            refine ⟨⟨n + 1, T', by omega, by omega, by simp, hs4, hA4, hF4⟩, by simp [intOf]; omega⟩
        · have hc : candB m g n = false := by rw [hcw.out, hw]; rfl
          have hA4 := hA3.step hal (fun h => h)
          have hF4 := hF3.step hal (fun h => h)
          have hs4 := hs3.trans hal
          have eA := againTo_skip hc
          have eF := newTo_skip hc
          rw [← eA] at hA4
          rw [← eF] at hF4
          rw [hw] at lkW
          clear eA eF hc
          go_wp2
          refine ⟨⟨n + 1, T', by omega, by omega, by simp, hs4, hA4, hF4⟩, by simp [intOf]; omega⟩
      · have hn : n = m.bodies.length := by omega
        subst hn
        go_wp2
        go_ret2
        exact ⟨ca, cf, rfl, T', hs3, hA3, hF3⟩

end Go.Proofs.YtockkceclkcgbaaGreatDoor

/- Contracts of the program's deliver and bury. -/
namespace Go.Proofs.YtockkceclkcgbaaGreatDoor
open Go.RowKit Go.Maps

theorem nSG {i k r j : Nat} (h : r < 3) : ¬ SG i k (.q i r j) := by
  rintro ⟨x, hx, e⟩
  have : r = x := by simpa using congrArg Tag.r e
  omega
/-- a new block is written -/
theorem Step.setNew {S : Tag → Prop} {w w1 : World} {T T1 : Nat → Tag} (h : Step S w T w1 T1) {c : Nat} (hc : w.heap.size ≤ c) (j : Nat) (v : Value) : Step S w T (w1.setCell ⟨c, j, none⟩ v) T1 := by
  have k := kept_setCell w1 ⟨c, j, none⟩ v
  exact ⟨k.os.trans h.os, k.tape.trans h.tape, k.output.trans h.output, Nat.le_trans h.size k.size, h.tag, fun i hi hS => (k.block i (Nat.lt_of_lt_of_le hi h.size) (fun e => by have e2 : i = c := e; omega)).trans (h.block i hi hS)⟩
theorem nSGf {i k : Nat} : ¬ SG i k .free := by simp [SG]
theorem nSGk {i k r j : Nat} (h : j ≠ k) : ¬ SG i k (.q i r j) := by
  rintro ⟨x, hx, e⟩
  exact h (by simpa using congrArg Tag.k e)

set_option maxRecDepth 100000 in
set_option maxHeartbeats 1000000 in
theorem deliver_any (i k b gb : Nat) (m : MQ) (p : PG) (n : Nat) (s : ByteArray) (vB vM vL vS : Value) (w : World) (T : Nat → Tag)
    (hB : Blk w T (.q i 0 0) b #[.int .i64 m.c.l, .int .i64 m.c.d, .int .i64 m.c.s, .int .i64 m.c.k, .int .i64 m.time, .int .i64 m.floor, vB, vM, vL, vS] 105) (hS : Sub w T (.q i 1 0) vB ((m.bodies.drop m.floor.toNat).map .string))
    (hG : GM w T i k gb p) (hsm : m.bodies.length ≤ 400) (h0 : 0 ≤ m.floor) (hn0 : m.floor ≤ n) (hs : m.bodies[n]? = some s) (ht0 : 0 ≤ m.time) (ht1 : m.time ≤ 4000000000000000000) (hl0 : 1 ≤ m.c.l) (hl1 : m.c.l ≤ 60000) :
    Calls Tryz.prog 106 #[.pointer (some ⟨b, 0, none⟩), .pointer (some ⟨gb, 0, none⟩), .int .i64 n] w fun e w' => e = .returned (.agg #[.int .i64 n, .int .i64 (wrap64 (p.tr n + 1)), .string s]) ∧
      ∃ T', Step (SG i k) w T w' T' ∧ GM w' T' i k gb (leaseP (countP p n) n (m.time + m.c.l)) := by
  have hnl := (List.getElem?_eq_some_iff.1 hs).1
  have hn : n < 400 := by omega
  have hi64 : i64 (n : Int) := ⟨by omega, by omega⟩
  have hwr : IntKind.i64.wrap (m.time + m.c.l) = m.time + m.c.l := by rw [IntWalk.i64_left, IntWalk.wrap64_in _ ⟨by omega, by omega⟩]
  have a1 := step_new w T (.cells #[.int .i64 0, .int .i64 0, .string ⟨#[]⟩] 82) .free (fun _ => False)
  have hO := blk_new w T #[.int .i64 0, .int .i64 0, .string ⟨#[]⟩] 82 .free
  have hB1 := hB.step a1 (fun h => h)
  have hS1 := hS.step a1 (fun h => h)
  obtain ⟨vD, vE, tb, wb, hBg, hD, hE, hT, hW⟩ := hG.step a1 (fun _ _ h => h)
  have lg := hBg.lt
  have d3 := hBg.cell (j := 3) rfl
  simp only [List.getElem_toArray, List.getElem_cons_succ, List.getElem_cons_zero] at d3
  clear hB hS hG
  go_enter Tryz.func106, Tryz.ntmps106
  generalize hTT : retag T w.heap.size .free = T1 at *
  have lkT := hT.look hi64
  go_wp2_with (first
    | (at_mapUpdate; refine wpList_store_try rfl _ _ _ rfl tb _ rfl hT n hn rfl (wrap64 (p.tr n + 1)) (wrap64_wf _) (by first | rfl | simp [Act.eval]) ?_; intro w2 hT2 hs2)
    | go_in)
  have hG2 : GM w2 T1 i k gb (countP p n) := ⟨vD, vE, tb, wb, hBg.step hs2 (by simp), hD.step hs2 (by simp), hE.step hs2 (by simp), hT2, hW.step hs2 (by simp)⟩
  have f2 : Step (SG i k) w T w2 T1 := (a1.mono (fun _ h => h.elim)).trans (hs2.mono (fun t ht => ⟨6, by decide, ht⟩))
  have hB2 := hB1.step hs2 (by simp)
  have hS2 := hS1.step hs2 (by simp)
  have hO2 := hO.step hs2 (by simp)
  clear hBg hD hE hT hW hT2 hs2 lkT d3 lg hO hB1 hS1 a1
  generalize hzz : w.heap.size = wz at *
  clear hTT
  have lb := hB2.lt
  have lg := hG2.lt
  have c4 := hB2.cell (j := 4) rfl
  have c0 := hB2.cell (j := 0) rfl
  simp only [List.getElem_toArray, List.getElem_cons_succ, List.getElem_cons_zero] at c4 c0
  have hdr := step_below (fun _ => False) T1 (Below.refl w2.heap.size w2).drew
  go_region_held3 (fun w' => w'.cell? ⟨b, 4, none⟩ = some (.int .i64 m.time) ∧ w'.cell? ⟨b, 0, none⟩ = some (.int .i64 m.c.l)) (go_keep) (first | (go_at_call 138; refine (lease_any i k gb (countP p n) n (m.time + m.c.l) _ T1 (hG2.step hdr (fun _ _ h => h)) hn).mono ?_; rintro e w3 ⟨rfl, T3, hs3, hG3⟩; have k4 := ((hB2.step hdr (fun h => h)).step hs3 (nSG (by decide))).cell (j := 4) rfl; have k0 := ((hB2.step hdr (fun h => h)).step hs3 (nSG (by decide))).cell (j := 0) rfl; simp only [List.getElem_toArray, List.getElem_cons_succ, List.getElem_cons_zero] at k4 k0))
  have hs23 : Step (SG i k) w2 T1 w3 T3 := (hdr.mono (fun _ h => h.elim)).trans hs3
  have hB3 := hB2.step hs23 (nSG (by decide))
  have hS3 := hS2.step hs23 (nSG (by decide))
  have hO3 := hO2.step hs23 nSGf
  have c5 := hB3.cell (j := 5) rfl
  have c6 := hB3.cell (j := 6) rfl
  simp only [List.getElem_toArray, List.getElem_cons_succ, List.getElem_cons_zero] at c5 c6
  have hj : ((m.bodies.drop m.floor.toNat).map Value.string)[n - m.floor.toNat]? = some (.string s) := by
    rw [List.getElem?_map, List.getElem?_drop, show m.floor.toNat + (n - m.floor.toNat) = n by omega, hs]
    rfl
  have lb3 := hB3.lt
  clear c4 c0 k4 k0 lb lg hB2 hS2 hG2 hO2
  go_wp2_with fail
  refine (delivery_any i k b gb _ n m.floor vB _ s (n - m.floor.toNat) w3 T3 hG3 lb3 c5 c6 hS3 hj (by omega) hn (by simp; omega)).mono ?_
  rintro e w4 ⟨rfl, hb4⟩
  have g4 := step_below (fun _ => False) T3 hb4
  have hO4 := hO3.step g4 (fun h => h)
  have lo := hO4.lt
  have o0 := hO4.cell (j := 0) rfl
  have o1 := hO4.cell (j := 1) rfl
  have o2 := hO4.cell (j := 2) rfl
  have z0 := hO4.frozen 0
  have z1 := hO4.frozen 1
  have z2 := hO4.frozen 2
  simp only [List.getElem_toArray, List.getElem_cons_succ, List.getElem_cons_zero] at o0 o1 o2
  have etr : (leaseP (countP p n) n (m.time + m.c.l)).tr n = wrap64 (p.tr n + 1) := by simp [leaseP, countP, upd]
  rw [etr]
  have hs5 : Step (fun t => t = .free) w4 T3 (((w4.setCell ⟨wz, 0, none⟩ (.int .i64 n)).setCell ⟨wz, 1, none⟩ (.int .i64 (wrap64 (p.tr n + 1)))).setCell ⟨wz, 2, none⟩ (.string s)) T3 :=
    ((step_setCell w4 T3 wz 0 _ (S := fun t => t = .free) hO4.1).trans (step_setCell _ T3 wz 1 _ (S := fun t => t = .free) hO4.1)).trans (step_setCell _ T3 wz 2 _ (S := fun t => t = .free) hO4.1)
  have hO5 := ((hO4.set 0 (.int .i64 n)).set 1 (.int .i64 (wrap64 (p.tr n + 1)))).set 2 (.string s)
  have r0 := hO5.cell (j := 0) (v := .int .i64 n) (by simp)
  have r1 := hO5.cell (j := 1) (v := .int .i64 (wrap64 (p.tr n + 1))) (by simp)
  have r2 := hO5.cell (j := 2) (v := .string s) (by simp)
  go_wp2
  refine bodyPost_ret (v := .agg #[.int .i64 n, .int .i64 (wrap64 (p.tr n + 1)), .string s]) ?_ rfl ⟨rfl, T3, ?_, (hG3.step g4 (fun _ _ h => h)).step hs5 (by simp)⟩
  · simp [results, Tryz.results106, go_sem, r0, r1, r2]
  · exact (((f2.trans (hs23.trans (g4.mono (fun _ h => h.elim)))).setNew (by omega) _ _).setNew (by omega) _ _).setNew (by omega) _ _

theorem info71d : (Tryz.prog.info? 82).map (fun i => (i.zero, i.size, i.bytes)) = some (some (.agg #[.int .i64 0, .int .i64 0, .string ⟨#[]⟩]), 3, 32) := by kernel_rfl

/-- delivery, and what its answer is when it is appended to the dead -/
theorem delivery_dead (i k b gb : Nat) (m : MQ) (p : PG) (n : Nat) (s : ByteArray) (vB vM vL vS : Value) (w : World) (T : Nat → Tag) (eo : Option Addr) (ecap : Nat) (vD : Value) (tb wb : Nat)
    (hB : Blk w T (.q i 0 0) b #[.int .i64 m.c.l, .int .i64 m.c.d, .int .i64 m.c.s, .int .i64 m.c.k, .int .i64 m.time, .int .i64 m.floor, vB, vM, vL, vS] 105) (hS : Sub w T (.q i 1 0) vB ((m.bodies.drop m.floor.toNat).map .string))
    (hBg : Blk w T (.q i 3 k) gb #[.int .i64 p.start, vD, .slice eo p.dead.length ecap, .map (some tb), .map (some wb)] 134) (hD : Row w T (.q i 4 k) 69 2 vD p.done.length (flat p.done))
    (hE : Row w T (.q i 5 k) 82 3 (.slice eo p.dead.length ecap) p.dead.length (dlVals p.dead)) (hT : TM w T (.q i 6 k) tb p.tr) (hW : WM w T (.q i 7 k) wb p.wt)
    (hsm : m.bodies.length ≤ 400) (h0 : 0 ≤ m.floor) (hn0 : m.floor ≤ n) (hs : m.bodies[n]? = some s) (hdl : p.dead.length ≤ 4000) :
    Calls Tryz.prog 137 #[.pointer (some ⟨b, 0, none⟩), .pointer (some ⟨gb, 0, none⟩), .int .i64 n] w.drew fun e w5 => ∃ g6 cap6 w6 T6, e = .returned (.agg #[.int .i64 n, .int .i64 (p.tr n), .string s]) ∧
      (Builtin.append_ #[77, 77] 77 #[.slice eo p.dead.length ecap, .slice (some ⟨w5.heap.size, 0, none⟩) 1 1]).run Tryz.prog (w5.alloc (.cells #[.int .i64 n, .int .i64 (p.tr n), .string s] 82)) = .ok (.slice (some ⟨g6, 0, none⟩) (p.dead.length + 1) cap6) w6 ∧
      gb < w5.heap.size ∧ w5.cell? ⟨gb, 2, none⟩ = some (.slice eo p.dead.length ecap) ∧ w6.cell? ⟨gb, 2, none⟩ = some (.slice eo p.dead.length ecap) ∧ w6.frozen? ⟨gb, 2, none⟩ = false ∧
      Step (SG i k) w T (w6.setCell ⟨gb, 2, none⟩ (.slice (some ⟨g6, 0, none⟩) (p.dead.length + 1) cap6)) T6 ∧ GM (w6.setCell ⟨gb, 2, none⟩ (.slice (some ⟨g6, 0, none⟩) (p.dead.length + 1) cap6)) T6 i k gb (buryP p ⟨n, p.tr n, s⟩) := by
  have hnl := (List.getElem?_eq_some_iff.1 hs).1
  have hdr := step_below (fun _ => False) T (Below.refl w.heap.size w).drew
  have hG : GM w T i k gb p := ⟨vD, _, tb, wb, hBg, hD, hE, hT, hW⟩
  have hj : ((m.bodies.drop m.floor.toNat).map Value.string)[n - m.floor.toNat]? = some (.string s) := by
    rw [List.getElem?_map, List.getElem?_drop, show m.floor.toNat + (n - m.floor.toNat) = n by omega, hs]
    rfl
  have hBd := hB.step hdr (fun h => h)
  refine (delivery_any i k b gb p n m.floor vB _ s (n - m.floor.toNat) w.drew T (hG.step hdr (fun _ _ h => h)) hBd.lt (hBd.cell (j := 5) rfl) (hBd.cell (j := 6) rfl) (hS.step hdr (fun h => h)) hj (by omega) (by omega) (by simp; omega)).mono ?_
  rintro e w5 ⟨rfl, hb5⟩
  obtain ⟨i0, hi, hz0, hz1, hz2⟩ := info_parts info71d
  have hs5 : Step (fun _ => False) w T w5 T := hdr.trans (step_below _ T hb5)
  have hal := step_alloc w5 T (.cells #[.int .i64 n, .int .i64 (p.tr n), .string s] 82) (fun _ => False)
  have hsa := hs5.trans hal
  have hB5 := hBg.step hs5 (fun h => h)
  have hBa := hBg.step hsa (fun h => h)
  obtain ⟨g6, cap6, w6, T6, hrun6, hR6, hs6⟩ := run_append_row (P := Tryz.prog) (tg := .q i 5 k) 77 77 82 i0 _ 3 32 Tryz.underlying77 hi hz0 hz1 hz2 rfl (by decide) _ _ _ (hE.step hsa (fun h => h)) ⟨w5.heap.size, 0, none⟩ 1 1 [.int .i64 n, .int .i64 (p.tr n), .string s] rfl
    (cells_new5 w5 [.int .i64 n, .int .i64 (p.tr n), .string s] 82) (by simp [Value.oneCell']) (by decide) (by unfold maxLen; omega) (by omega)
  have hB6 := hBa.step hs6 (by simp)
  have hs7 : Step (fun t => t = .q i 3 k) w6 T6 (w6.setCell ⟨gb, 2, none⟩ (.slice (some ⟨g6, 0, none⟩) (p.dead.length + 1) cap6)) T6 := step_setCell _ _ _ _ _ hB6.1
  refine ⟨g6, cap6, w6, T6, rfl, hrun6, hB5.lt, hB5.cell (j := 2) rfl, hB6.cell (j := 2) rfl, hB6.frozen 2, ?_, ?_⟩
  · exact (hsa.mono (fun _ h => h.elim)).trans ((hs6.mono (fun t ht => ⟨5, by decide, ht⟩)).trans (hs7.mono (fun t ht => ⟨3, by decide, ht⟩)))
  · refine ⟨vD, _, tb, wb, hB6.set 2 _, ((hD.step hsa (fun h => h)).step hs6 (by simp)).step hs7 (by simp), ?_, ((hT.step hsa (fun h => h)).step hs6 (by simp)).step hs7 (by simp), ((hW.step hsa (fun h => h)).step hs6 (by simp)).step hs7 (by simp)⟩
    have := hR6.step hs7 (by simp)
    simpa [buryP, dlVals_append, dlVals] using this

set_option maxRecDepth 100000 in
set_option maxHeartbeats 2000000 in
theorem bury_any (i k b gb : Nat) (m : MQ) (p : PG) (n : Nat) (s : ByteArray) (vB vM vL vS : Value) (w : World) (T : Nat → Tag)
    (hB : Blk w T (.q i 0 0) b #[.int .i64 m.c.l, .int .i64 m.c.d, .int .i64 m.c.s, .int .i64 m.c.k, .int .i64 m.time, .int .i64 m.floor, vB, vM, vL, vS] 105) (hS : Sub w T (.q i 1 0) vB ((m.bodies.drop m.floor.toNat).map .string))
    (hG : GM w T i k gb p) (hsm : m.bodies.length ≤ 400) (h0 : 0 ≤ m.floor) (hn0 : m.floor ≤ n) (hs : m.bodies[n]? = some s) (hdl : p.dead.length ≤ 4000) (hset : setB p.done = true) :
    Calls Tryz.prog 105 #[.pointer (some ⟨b, 0, none⟩), .pointer (some ⟨gb, 0, none⟩), .int .i64 n] w fun e w' => e = .returned (.tuple #[]) ∧
      ∃ T', Step (SG i k) w T w' T' ∧ GM w' T' i k gb (finishP (buryP p ⟨n, p.tr n, s⟩) n) := by
  have hnl := (List.getElem?_eq_some_iff.1 hs).1
  obtain ⟨vD, vE, tb, wb, hBg, hD, hE, hT, hW⟩ := hG
  obtain ⟨eo, ecap, rfl⟩ := row_form hE
  have lg := hBg.lt
  have d2 := hBg.cell (j := 2) rfl
  simp only [List.getElem_toArray, List.getElem_cons_succ, List.getElem_cons_zero] at d2
  have hcon := delivery_dead i k b gb m p n s vB vM vL vS w T eo ecap vD tb wb hB hS hBg hD hE hT hW hsm h0 hn0 hs hdl
  clear hB hS hBg hD hE hT hW
  go_enter Tryz.func105, Tryz.ntmps105
  go_wp2_with fail
  go_region_law (first
    | (refine step_append_known rfl _ _ 77 rfl _ _ _ rfl rfl hrun6 ?_)
    | (go_simp; go_at_call 137; refine hcon.mono ?_; rintro e w5 ⟨g6, cap6, w6, T6, rfl, hrun6, l5, o6, x6, y6, z6, k6⟩))
  all_goals
    generalize w6.setCell ⟨gb, 2, none⟩ (.slice (some ⟨g6, 0, none⟩) (p.dead.length + 1) cap6) = w7 at *
    go_wp2_with fail
    refine (finish_any i k gb _ n w7 T6 k6 hset (by omega)).mono ?_
    rintro e w8 ⟨rfl, T8, hs8, hG8⟩
    go_wp2
    go_end0
    exact ⟨rfl, T8, z6.trans hs8, hG8⟩

end Go.Proofs.YtockkceclkcgbaaGreatDoor

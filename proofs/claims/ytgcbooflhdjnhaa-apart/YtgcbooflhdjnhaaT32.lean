/- The contract of the program's Receive, over the document's queue that it tells. -/
import Derived.Test.YtgcbooflhdjnhaaT31
import Derived.Deep.RegionHeld3
namespace Go.Proofs.Ytgcbooflhdjnhaa
open Go.RowKit Go.Maps

theorem take_step {m : MQ} {start n : Int} {v : Nat} {r : List Nat} {st : RS} (h : ¬ n ≤ st.out.length) : takeV m start n (v :: r) st = takeV m start n r (visit m start st v) := by simp [takeV, h]

theorem ownsRow_step {S : Tag → Prop} {w w' : World} {T T' : Nat → Tag} {t : Tag} {base : Nat} {e : TypeId} {size : Nat} {v : Value} {n : Nat} {xs : List Value} (h : w.ownsRow base e size v n xs) (hs : Step S w T w' T') (hT : ∀ g, v.ownBlock = some g → T g = t) (ht : ¬ S t) : w'.ownsRow base e size v n xs := by
  refine ⟨h.1, ?_⟩
  rcases h.2 with hn | ⟨g, cap, cur, rfl, hb, hgg, rest⟩
  · exact .inl hn
  · refine .inr ⟨g, cap, cur, rfl, hb, ?_, rest⟩
    have h1 := (Array.getElem?_eq_some_iff.1 hgg).1
    rw [hs.block g h1 (by rw [hT g rfl]; exact ht)]
    exact hgg
theorem nSG3 {i k : Nat} : ¬ SG i k (.q i 0 3) := nSG (by decide)
theorem cells_new3 (w : World) (a b c : Value) (e : TypeId) : ∀ j u, [a, b, c][j]? = some u → (w.alloc (.cells #[a, b, c] e)).cell? ((⟨w.heap.size, 0, none⟩ : Addr).add j) = some u := cells_new5 w [a, b, c] e

/-- what is left to look at stays as it was -/
theorem cand_rest {m : MQ} {g : MG} {v : Nat} {rest : List Nat} {st : RS} (hnod : (v :: rest).Nodup) (hc : ∀ u ∈ v :: rest, ∃ x, st.items[u]? = some x ∧ passed m g.start u x = false) : ∀ u ∈ rest, ∃ x, (visit m g.start st v).items[u]? = some x ∧ passed m g.start u x = false := fun u hu => by
  obtain ⟨x, h1, h2⟩ := hc u (by simp [hu])
  have hne : u ≠ v := fun e => (List.nodup_cons.1 hnod).1 (by rw [← e]; exact hu)
  exact ⟨x, (visit_items hne).trans h1, h2⟩

/-- at the end the list is given away: it bears whatever tag -/
theorem give_away {w0 wr : World} {T T' : Nat → Tag} {i b k : Nat} {m : MQ} {l : List Dl} {ao : Option Addr} {cap : Nat} (t : Tag) (hs : Step (SR i k) w0 T wr T') (hx : X wr T' i b m)
    (hR : Row wr T' (.q i 0 3) 89 3 (.slice ao l.length cap) l.length (dlVals l)) (hown : wr.ownsRow w0.heap.size 89 3 (.slice ao l.length cap) l.length (dlVals l)) :
    ∃ T'', Step (XT i) w0 T wr T'' ∧ X wr T'' i b m ∧ Row wr T'' t 89 3 (.slice ao l.length cap) l.length (dlVals l) := by
  rcases hown.2 with ⟨h1, h2⟩ | ⟨g, cap', cur, h1, hb, rest⟩
  · have hao : ao = none := by
      have h3 := h1
      simp at h3
      exact h3.1
    exact ⟨T', hs.mono (fun _ h => SR_XT h), hx, hR.1, fun g hg => by rw [hao] at hg; simp [Value.ownBlock] at hg⟩
  · cases h1
    have hg : T' g = .q i 0 3 := hR.2 g rfl
    refine ⟨retag T' g t, ?_, hx.retag hg, hR.1, fun g' hg' => ?_⟩
    · have h := hs.mono (fun _ h => SR_XT h)
      exact ⟨h.os, h.tape, h.output, h.size, fun j hj => (retag_other T' g t (by omega)).trans (h.tag j hj), h.block⟩
    · simp [Value.ownBlock] at hg'
      subst hg'
      exact retag_same _ _ _

set_option maxRecDepth 100000 in
set_option maxHeartbeats 4000000 in
theorem xrecv_any (i b : Nat) (m : MQ) (s : ByteArray) (n : Int) (t : Tag) (w : World) (T : Nat → Tag) (hx : X w T i b m) {B : Int} (hfit : m.Fit B) (_hB4 : B ≤ 3999999999999940000) : Calls Try.prog 78 #[.pointer (some ⟨b, 0, none⟩), .string s, .int .i64 n] w fun e w' =>
      ∃ ao cap, e = .returned (.tuple #[.slice ao (recvL m s n).length cap, .int .i64 (recvE m s n)]) ∧ ∃ T', Step (XT i) w T w' T' ∧ X w' T' i b (recvM m s n) ∧ Row w' T' t 89 3 (.slice ao (recvL m s n).length cap) (recvL m s n).length (dlVals (recvL m s n)) := by
  have hok := hfit.ok
  obtain ⟨vB, mb, f, ps, hB, hS, hN, hG, lk⟩ := hx.find
  have lb := hB.lt
  have c7 := hB.cell (j := 7) rfl
  simp only [List.getElem_toArray, List.getElem_cons_succ, List.getElem_cons_zero] at c7
  have lks := lk s
  clear lk
  cases ha : m.at s with
  | none =>
    have e1 : recvL m s n = [] := by simp [recvL, ha]
    have e2 : Hid (recvE m s n = 10) := hide (by simp [recvE, ha])
    have e3 : recvM m s n = m := by simp [recvM, ha]
    rw [e1, e3]
    rw [ha] at lks
    simp only [Option.map_none, ptrO] at lks
    go_enter Try.func78, Try.ntmps78
    go_wp2
    go_ret2
    exact ⟨none, 0, by rw [e2.out]; rfl, T, Step.refl _ _ _, hx, row_nil _ _ _ _ _⟩
  | some k =>
    rw [ha] at lks
    simp only [Option.map_some, ptrO, ptrV] at lks
    obtain ⟨g, hg, _⟩ := at_group ha
    obtain ⟨hGk, hr⟩ := hG k g hg
    have hgm := List.mem_of_getElem? hg
    have hsm := hx.small
    have hfl := hok.fl
    have ht := hok.time
    have hlen := hok.len g hgm
    have hst := hok.start g hgm
    have hinv := hx.inv g hgm
    have hgood := hok.good
    simp only [goodC, Bool.and_eq_true] at hgood
    have hcl := btw_true hgood.1
    have hcd := btw_true hgood.2.1
    clear hgood
    go_enter Try.func78, Try.ntmps78
    go_wp2_with fail
    refine (between_any _ _ _ _).mono ?_
    rintro e w0 ⟨rfl, hb0⟩
    have g0 := step_below (fun _ => False) T hb0
    replace hx := hx.below hb0
    replace hB := hB.step g0 (fun h => h)
    replace hS := hS.step g0 (fun h => h)
    replace hN := hN.step g0 (fun h => h)
    replace hGk := hGk.step g0 (fun _ _ h => h)
    replace hG : ∀ k g, m.groups[k]? = some g → GM w0 T i k (f k) (ps k) ∧ RelG m g (ps k) := fun k g h => ⟨(hG k g h).1.step g0 (fun _ _ h => h), (hG k g h).2⟩
    clear c7 lks lb g0
    cases hn : btw n 1 32
    · have e1 : recvL m s n = [] := by simp [recvL, ha, hg, hn]
      have e2 : Hid (recvE m s n = 11) := hide (by simp [recvE, ha, hn])
      have e3 : recvM m s n = m := by simp [recvM, ha, hg, hn]
      replace e1 := hide e1
      replace e3 := hide e3
      go_wp2
      go_ret2
      rw [e1.out, e2.out, e3.out]
      exact ⟨none, 0, rfl, T, step_below _ T hb0, hx, row_nil _ _ _ _ _⟩
    have hn2 := btw_true hn
    have e1 : Hid (recvL m s n = (recvAll m g n).out) := hide (by simp [recvL, ha, hg, hn])
    have e2 : Hid (recvE m s n = 0) := hide (by simp [recvE, ha, hn])
    have e3 : Hid (recvM m s n = m.setG k (recvAll m g n)) := hide (by simp [recvM, ha, hg, hn])
    go_wp2_with fail
    refine (ready_any i k b (f k) m g (ps k) vB _ w0 T hB hS hGk hr hinv hlen hsm hfl.1 hfl.2 hst.1 hst.2).mono ?_
    rintro e w1 ⟨ca, cf, rfl, T1, hs1, hA1, hF1⟩
    have htake := hide (recvAll_take (m := m) (g := g) (n := n) hlen)
    have hnod := hide (take_nodup m g m.bodies.length)
    have hcand : Hid (∀ v ∈ againTo m g m.bodies.length ++ newTo m g m.bodies.length, ∃ x, g.items[v]? = some x ∧ passed m g.start v x = false) := hide (fun v hv => take_cand hv)
    have hGk1 := hGk.step hs1 (fun _ _ h => h)
    go_wp2_with fail
    go_loopw [11] (fun u11 wr => ∃ (st : RS) (A F : List Nat) (T' : Nat → Tag) (ao : Option Addr) (cap : Nat) (p : PG), u11 = .slice ao st.out.length cap ∧ Step (SR i k) w0 T wr T' ∧ Ch wr T' (.q i 0 1) ca (m.bodies.length - m.floor.toNat) A ∧ Ch wr T' (.q i 0 2) cf (m.bodies.length - m.floor.toNat) F ∧
        GM wr T' i k (f k) p ∧ Hid (RelG (m.setG k st) (gS g st) p ∧ InvG (m.setG k st) (gS g st)) ∧ Row wr T' (.q i 0 3) 89 3 (.slice ao st.out.length cap) st.out.length (dlVals st.out) ∧ wr.ownsRow w0.heap.size 89 3 (.slice ao st.out.length cap) st.out.length (dlVals st.out) ∧
        Hid (recvAll m g n = takeV m g.start n (A ++ F) st) ∧ Hid ((A ++ F).Nodup) ∧ Hid (∀ v ∈ A ++ F, ∃ x, st.items[v]? = some x ∧ passed m g.start v x = false) ∧ Hid (st.Fit m.bodies.length) ∧ st.out.length ≤ 32)
      (fun _ wr => chLeft wr ca + chLeft wr cf)
    case atStart =>
      refine ⟨⟨g.items, g.dead, m.changes, []⟩, _, _, T1, none, 0, ps k, rfl, hs1.mono (fun _ h => h.elim), hA1, hF1, hGk1, ?_, row_nil _ _ _ _ _, World.ownsRow_nil _ _ _ _, htake, hnod, hcand, ?_, by simp⟩
      · have e : m.setG k ⟨g.items, g.dead, m.changes, []⟩ = m := setG_self hg
        rw [e]
        exact hide ⟨hr, hinv⟩
      · exact hide ⟨hlen, hok.dead g hgm, hfit.cnt g hgm⟩
    case round =>
      clear htake hnod hcand hA1 hF1 hGk1 hs1
      obtain ⟨st, A, F, T', ao, cap, p, rfl, hs, hA, hF, hGp, hrel2, hR, hown, htake, hnod, hcand, hfit2, hout⟩ := hrel
      have hfinish : recvAll m g n = st → ∃ ao' cap', Ending.returned (.tuple #[.slice ao st.out.length cap, .int .i64 0]) = .returned (.tuple #[.slice ao' (recvL m s n).length cap', .int .i64 (recvE m s n)]) ∧ ∃ T'', Step (XT i) w T wr T'' ∧ X wr T'' i b (recvM m s n) ∧ Row wr T'' t 89 3 (.slice ao' (recvL m s n).length cap') (recvL m s n).length (dlVals (recvL m s n)) := fun hend => by
        obtain ⟨T'', q1, q2, q3⟩ := give_away t hs (hx.recv hg hs hB hS hN hG hGp hrel2.out.1 hrel2.out.2) hR hown
        rw [e1.out, e2.out, e3.out, hend]
        exact ⟨ao, cap, rfl, T'', (step_below _ T hb0).trans q1, q2, q3⟩
      replace hfinish := hide hfinish
      by_cases hfull : n ≤ st.out.length
      · have hend : Hid (recvAll m g n = st) := hide (by rw [htake.out, takeV_full hfull])
        go_wp2
        go_ret2
        exact hfinish.out hend.out
      · have hnf : ¬ n ≤ (st.out.length : Int) := hfull
        cases hAF : A ++ F with
        | nil =>
          have hend : Hid (recvAll m g n = st) := hide (by rw [htake.out, hAF]; rfl)
          obtain ⟨rfl, rfl⟩ := List.append_eq_nil_iff.1 hAF
          go_wp2_with fail
          refine (next_none ca cf _ _ _ _ wr T' hA hF).mono ?_
          rintro e w2 ⟨rfl, rfl⟩
          go_wp2
          go_ret2
          exact hfinish.out hend.out
        | cons v rest =>
          rw [hAF] at htake hnod hcand
          obtain ⟨x, hxv, hpas⟩ := hcand.out v (by simp)
          have hvl : v < m.bodies.length := by have := (List.getElem?_eq_some_iff.1 hxv).1; have := hfit2.out.len; omega
          obtain ⟨sb, hsb⟩ : ∃ sb, m.bodies[v]? = some sb := ⟨_, List.getElem?_eq_getElem hvl⟩
          have hp5 : ¬ (v : Int) < m.floor ∧ ¬ (v : Int) < g.start ∧ ¬ 0 < x.done ∧ ¬ m.time < x.till ∧ ¬ m.time < x.after := by
            simp [passed] at hpas
            omega
          go_wp2_with fail
          refine (next_some i ca cf _ v rest A F wr T' hA hF hAF).mono ?_
          rintro e w2 ⟨rfl, A', F', hAF', hA2, hF2, hs2⟩
          have hs02 : Step (SR i k) w0 T w2 T' := hs.trans (hs2.mono (fun u hu => hu.elim (fun h => .inr (.inl h)) (fun h => .inr (.inr (.inl h)))))
          have hG2 := hGp.step hs2 (by intro r hr; simp; omega)
          have hR2 := hR.step hs2 (by simp)
          have hown2 := ownsRow_step hown hs2 hR.2 (by simp)
          have hB2 := hB.step hs02 nSR0
          have hS2 := hS.step hs02 nSR1
          have hmeas : Hid (chLeft wr ca + chLeft wr cf = rest.length + 1) := hide (by
            rw [hA.left, hF.left]
            have := congrArg List.length hAF
            simpa using this)
          have htake2 : Hid (recvAll m g n = takeV m g.start n (A' ++ F') (visit m g.start st v)) := hide (by rw [htake.out, take_step (by omega), hAF'])
          have hnod2 : Hid ((A' ++ F').Nodup) := hide (by rw [hAF']; exact (List.nodup_cons.1 hnod.out).2)
          have hcand2 : Hid (∀ u ∈ A' ++ F', ∃ x, (visit m g.start st v).items[u]? = some x ∧ passed m g.start u x = false) := hide (by rw [hAF']; exact cand_rest hnod.out hcand.out)
          have hlAF : Hid (A'.length + F'.length = rest.length) := hide (by rw [← hAF']; simp)
          have hfit3 : Hid ((visit m g.start st v).Fit m.bodies.length) := hide (by
            have : visit m g.start st v = recvOne m g.start st v x := by simp [visit, hxv]
            rw [this]
            exact fit_recvOne hfit2.out hxv)
          have hdl : p.dead.length ≤ 4000 := by
            rw [hrel2.out.1.dead, List.length_map]
            have h1 := hfit2.out.cnt
            have h2 := cnt_le st.items
            have h3 := hfit2.out.len
            show st.dead.length ≤ 4000
            omega
          have hset := hrel2.out.1.set
          have htr : p.tr v = x.tries := by
            have hx2 : (gS g st).items[v]? = some x := hxv
            rw [hrel2.out.1.tr, itemAt_nat, hx2]
            have hd0 : ¬ 0 < x.done := by omega
            simp [triesOf, hd0]
          have hi64 : i64 (v : Int) := ⟨by omega, by omega⟩
          clear hs hA hF hGp hR hown hs2 hcand hnod htake hfinish hAF hAF'
          have hdr := step_below (fun _ => False) T' (Below.refl w2.heap.size w2).drew
          have hG2k := hG2
          obtain ⟨vD, vE, tb, wb, hBg, hD, hEd, hT, hW⟩ := hG2
          have lg := hBg.lt
          have lb := hB2.lt
          have d3 := hBg.cell (j := 3) rfl
          have c1 := hB2.cell (j := 1) rfl
          simp only [List.getElem_toArray, List.getElem_cons_succ, List.getElem_cons_zero] at d3 c1
          have lkT := (hT.step hdr (fun h => h)).look hi64
          rw [htr] at lkT
          clear hBg hD hEd hT hW
          go_wp2_with fail
          go_region_held3 (fun w' => w'.cell? ⟨f k, 3, none⟩ = some (.map (some tb)) ∧ w'.cell? ⟨b, 1, none⟩ = some (.int .i64 m.c.d) ∧ (Instr.lookup 128 (.map (some tb)) (.int .i64 (v : Int)) false).run Try.prog w' = .ok (.int .i64 x.tries) w') (go_keep) (fail)
          have g3 : Step (SR i k) w0 T w2.drew T' := hs02.trans (hdr.mono (fun _ h => h.elim))
          have hG3 := hG2k.step hdr (fun _ _ h => h)
          have hR3 := hR2.step hdr (fun h => h)
          have hown3 := ownsRow_step hown2 hdr hR2.2 (fun h => h)
          have hB3 := hB2.step hdr (fun h => h)
          have hS3 := hS2.step hdr (fun h => h)
          have hA3 := hA2.step hdr (fun h => h)
          have hF3 := hF2.step hdr (fun h => h)
          clear hG2k hR2 hown2 hB2 hS2 hA2 hF2 hs02 lkT d3 c1 lg lb hdr
          generalize w2.drew = w3 at *
          by_cases hE : m.c.d ≤ x.tries
          · have ev : Hid (visit m g.start st v = ⟨st.items.set v { x with done := 2 }, st.dead ++ [v], wrap64 (st.ch + 1), st.out⟩) := hide (by simp [visit, hxv, recvOne, hpas, hE])
            go_wp2_with fail
            refine (bury_any i k b (f k) m p v sb vB _ w3 T' hB3 hS3 hG3 hsm hfl.1 (by omega) hsb hdl hset).mono ?_
            rintro e w5 ⟨rfl, T5, hs5, hG5⟩
            have hA5 := hA3.step hs5 (nSG (by decide))
            have hF5 := hF3.step hs5 (nSG (by decide))
            have hR5 := hR3.step hs5 nSG3
            have hown5 := ownsRow_step hown3 hs5 hR3.2 nSG3
            have hrr := rel_bury (M' := m.setG k (visit m g.start st v)) (ch := wrap64 (st.ch + 1)) (out := st.out) hrel2.out.1 hrel2.out.2 hxv (by omega) (by omega) hsb rfl rfl rfl
            rw [← ev.out] at hrr
            have eo : (visit m g.start st v).out = st.out := by rw [ev.out]
            have ho2 : (visit m g.start st v).out.length ≤ 32 := by rw [eo]; exact hout
            replace hrr := hide hrr
            rw [← eo] at hR5 hown5
            go_wp2
            refine ⟨⟨visit m g.start st v, A', F', T5, ao, cap, _, by rw [eo], g3.trans (hs5.mono (fun u hu => .inl hu)), hA5, hF5, hG5, hrr, hR5, hown5, htake2, hnod2, hcand2, hfit3, ho2⟩, ?_⟩
            rw [hmeas.out, hA5.left, hF5.left]
            have := hlAF.out
            omega
          · have hlt : x.tries < m.c.d := by omega
            have ev : Hid (visit m g.start st v = ⟨st.items.set v { x with tries := wrap64 (x.tries + 1), till := m.time + m.c.l }, st.dead, wrap64 (st.ch + 1), st.out ++ [⟨v, wrap64 (x.tries + 1), sb⟩]⟩) := hide (by
              simp [visit, hxv, recvOne, hpas, hE, List.getD, hsb])
            go_wp2_with fail
            refine (deliver_any i k b (f k) m p v sb vB _ w3 T' hB3 hS3 hG3 hsm hfl.1 (by omega) hsb ht.1 ht.2 hcl.1 hcl.2).mono ?_
            rintro e w5 ⟨rfl, T5, hs5, hG5⟩
            rw [htr]
            have hA5 := hA3.step hs5 (nSG (by decide))
            have hF5 := hF3.step hs5 (nSG (by decide))
            have hR5 := hR3.step hs5 nSG3
            have hown5 := ownsRow_step hown3 hs5 hR3.2 nSG3
            have hrr := rel_give (M' := m.setG k (visit m g.start st v)) (u := m.time + m.c.l) (ch := wrap64 (st.ch + 1)) (out := st.out ++ [⟨v, wrap64 (x.tries + 1), sb⟩]) hrel2.out.1 hrel2.out.2 hxv (by omega) (by show m.time < _; omega) (by show _ ≤ m.time; omega) hlt hcd.2 rfl rfl rfl
            rw [← ev.out] at hrr
            have eo : Hid ((visit m g.start st v).out = st.out ++ [⟨v, wrap64 (x.tries + 1), sb⟩]) := hide (by rw [ev.out])
            replace hrr := hide hrr
            have g5 := g3.trans (hs5.mono (fun u hu => (.inl hu : SR i k u)))
            clear hA3 hF3 hR3 hown3 hB3 hS3 hG3 g3 hs5
            have hal := step_alloc w5 T5 (.cells #[.int .i64 v, .int .i64 (wrap64 (x.tries + 1)), .string sb] 89) (fun _ => False)
            have hRa := hR5.step hal (fun h => h)
            have howna := ownsRow_step hown5 hal hR5.2 (fun h => h)
            have hz0 := g5.size
            obtain ⟨i0, hi, hz0', hz1, hz2⟩ := info_parts info71d
            go_wp2_with (first
              | (at_builtin; refine wpList_append_own_at _ rfl _ _ 87 rfl w0.heap.size 89 i0 _ 3 32 Try.underlying87 hi hz0' hz1 hz2 rfl (by decide) _ _ _ rfl howna ⟨w5.heap.size, 0, none⟩ 1 1 [.int .i64 v, .int .i64 (wrap64 (x.tries + 1)), .string sb] rfl rfl (cells_new3 w5 _ _ _ _) (by simp [Value.oneCell']) (by unfold maxLen; omega) (by omega) (by simp; omega) ?_; intro v' w6 hown6 hgrow6 hnil6 hloc6)
              | go_in)
            obtain ⟨T6, hs6, hR6⟩ := hRa.appended (ownsRow_base hown6 (Nat.zero_le _)) hgrow6 hloc6
            obtain ⟨ao6, cap6, rfl⟩ := ownsRow_slice hown6
            have el : (visit m g.start st v).out.length = st.out.length + 1 := by rw [eo.out]; simp
            have ed : dlVals (visit m g.start st v).out = dlVals st.out ++ [.int .i64 v, .int .i64 (wrap64 (x.tries + 1)), .string sb] := by rw [eo.out, dlVals_append]; rfl
            rw [← el, ← ed] at hR6 hown6
            have g6 : Step (SR i k) w0 T w6 T6 := (g5.trans (hal.mono (fun _ h => h.elim))).trans (hs6.mono (fun u hu => .inr (.inr (.inr hu))))
            have hA6 := (hA5.step hal (fun h => h)).step hs6 (by simp)
            have hF6 := (hF5.step hal (fun h => h)).step hs6 (by simp)
            have hG6 := (hG5.step hal (fun _ _ h => h)).step hs6 (by intro r hr; simp; omega)
            refine ⟨⟨visit m g.start st v, A', F', T6, ao6, cap6, _, by rw [el], g6, hA6, hF6, hG6, hrr, hR6, hown6, htake2, hnod2, hcand2, hfit3, by omega⟩, ?_⟩
            rw [hmeas.out, hA6.left, hF6.left]
            have := hlAF.out
            omega

end Go.Proofs.Ytgcbooflhdjnhaa

/- The program's queue keeps the document's contracts. -/
namespace Go.Proofs.Ytgcbooflhdjnhaa
open Go.RowKit

theorem xc (B : Int) (hB : B ≤ 3999999999999940000) : XC X B where
  step := fun hx hs hS => hx.step hs hS
  opn := fun c i w T => xopen_any c i w T
  log := fun i b m w T hx _ => xlog_any i b m w T hx
  enq := fun i b m s w T hx hf => xenq_any i b m s w T hx hf.ok
  grp := fun i b m s fr w T hx hf => xgrp_any i b m s fr w T hx hf.ok
  recv := fun i b m s n t w T hx hf => xrecv_any i b m s n t w T hx hf hB
  ack := fun i b m s off tr w T hx hf => xack_any i b m s off tr w T hx hf.ok
  nack := fun i b m s off tr d w T hx hf => xnack_any i b m s off tr d w T hx hf.ok
  ext := fun i b m s off tr d w T hx hf => xextend_any i b m s off tr d w T hx hf.ok
  tick := fun i b m d w T hx hf => xtick_any i b m d w T hx hf.ok
  done := fun i b m s t w T hx hf => xdone_any i b m s t w T hx hf.ok
  dead := fun i b m s t w T hx hf => xdead_any i b m s t w T hx (hf.dead hx.small)
  span := fun i b m w T hx hf => xspan_any i b m w T hx hf.ok
  ret := fun i b m w T hx hf => xretain_any i b m w T hx hf.ok

end Go.Proofs.Ytgcbooflhdjnhaa

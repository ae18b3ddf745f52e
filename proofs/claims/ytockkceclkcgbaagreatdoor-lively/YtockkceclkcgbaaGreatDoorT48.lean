/- restore: what Open makes of a text. -/
import Derived.Test.YtockkceclkcgbaaGreatDoorT47
namespace Go.Proofs.YtockkceclkcgbaaGreatDoor
open Go.RowKit Go.Maps

/-- what load does is known -/
def LoadOk (i b : Nat) (c : Conf) : Prop := ∀ (d : Bs) (vL : Value) (ls : Nat) (w : World) (T : Nat → Tag), CM w T i b c .zero vL ls [] → d.length ≤ 100000000 →
  Calls Tryz.prog 128 #[.pointer (some ⟨b, 0, none⟩), .string (mkB d)] w fun e w' => ∃ T', Step (XT i) w T w' T' ∧ repA (fun co' => CM w' T' i b c co' vL ls []) e (loadC c d)
/-- what restore answers -/
def resA (i b : Nat) (c : Conf) (w' : World) (T' : Nat → Tag) (e : Ending) : Option (Core × Nat × Bs) → Prop
  | none => ∃ a, e = .returned (errV a)
  | some (co, s, lg) => e = .returned .nilIface ∧ ∃ vL, CO w' T' i b c co vL s lg

/-- a tag that no block bears -/
theorem fresh_tag (T : Nat → Tag) : ∀ n : Nat, ∃ m : Nat, ∀ k, k < n → ∀ j, m ≤ j → T k ≠ ⟨77, j, 0, 0⟩
  | 0 => ⟨0, fun k hk => absurd hk (by omega)⟩
  | n + 1 => by
    obtain ⟨m, hm⟩ := fresh_tag T n
    refine ⟨max m ((T n).i + 1), fun k hk j hj e => ?_⟩
    by_cases hkn : k = n
    · subst hkn
      rw [e] at hj
      simp at hj
      omega
    · exact hm k (by omega) j (by omega) e
theorem Step.less {S : Tag → Prop} {t0 : Tag} {w w' : World} {T T' : Nat → Tag} (h : Step (fun s => S s ∨ s = t0) w T w' T') (hf : ∀ k, k < w.heap.size → T k ≠ t0) : Step S w T w' T' :=
  ⟨h.os, h.tape, h.output, h.size, h.tag, fun k hk hS => h.block k hk (fun x => x.elim hS (hf k hk))⟩

def calmed (left : Lit → Bool) (nm : ByteArray) (p : PG) : PG := bif left (keyL nm) then p else calmP p
theorem co_group {co : Core} {s : ByteArray} {k : Nat} (h : idx s co.names = some k) : ∃ g, co.gs[k]? = some (s, g) := by
  obtain ⟨g, h1, _⟩ := core_some h
  exact ⟨g, h1⟩

set_option maxRecDepth 100000 in
set_option maxHeartbeats 4000000 in
theorem restore_any (c : Conf) (i b mb : Nat) (t : Bs) (a0 a1 : Addr) (w : World) (T : Nat → Tag) (hg : goodC c = true) (hB : Blk w T (.q i 0 0) b (freshQ c mb) 105) (hN : NM w T (.q i 2 0) mb [] (fun _ => 0)) (hLd : Laid w T a0 a1) (hload : t.head? = some 99 → LoadOk i b c) (ht : t.length ≤ 1000000000000) :
    Calls Tryz.prog 64 #[.pointer (some ⟨b, 0, none⟩), .string (mkB t)] w fun e w' => ∃ T', Step (XT i) w T w' T' ∧ resA i b c w' T' e (openT c t) := by
  have hC := cm_fresh hg hB hN
  obtain ⟨R, hR⟩ : ∃ R, Hid (openT c t = R) := ⟨_, hide rfl⟩
  rw [hR.out]
  have lb := hB.lt
  have c9 := hB.cell (j := 9) (v := .int .u32 (seedS c)) rfl
  obtain ⟨m0, hm0⟩ := fresh_tag T w.heap.size
  obtain ⟨t0, ht0⟩ : ∃ t0 : Tag, Hid (t0 = ⟨77, m0, 0, 0⟩) := ⟨_, hide rfl⟩
  have hfr : ∀ k, k < w.heap.size → T k ≠ t0 := fun k hk => by rw [ht0.out]; exact hm0 k hk m0 (Nat.le_refl _)
  have htx : ¬ XT i t0 := by rw [ht0.out]; simp [XT]
  have hto : t0 ≠ .old := by rw [ht0.out]; simp
  have htq : ∀ r k, Tag.q i r k ≠ t0 := fun r k => by rw [ht0.out]; simp
  clear hm0 ht0
  have s1 := step_new w T (.cells #[.string (mkB t), .bool false, .int .u32 (seedS c)] 163) t0 (fun _ => False)
  have hO := blk_new w T #[.string (mkB t), .bool false, .int .u32 (seedS c)] 163 t0
  have hSc : ScB (w.alloc (.cells #[.string (mkB t), .bool false, .int .u32 (seedS c)] 163)) (retag T w.heap.size t0) t0 w.heap.size ⟨t, false⟩ (seedS c) := ⟨hO, (by decide : 2 ≤ 3), by show t.length ≤ _; omega⟩
  have hC1 := hC.step s1 (fun _ _ _ h => h)
  have hLd1 := hLd.step s1 (fun h => h)
  have hseed : seedS c < 256 ^ 4 := crcF_lt _ _
  clear hB hN hLd hC hO
  go_enter Tryz.func64, Tryz.ntmps64
  go_wp2_with fail
  generalize retag T w.heap.size t0 = T1 at *
  generalize hww : w.alloc (.cells #[.string (mkB t), .bool false, .int .u32 (seedS c)] 163) = w1 at *
  generalize hsb : w.heap.size = sb at *
  clear hww lb c9
  go_loopw [6] (fun _ wr => ∃ (co : Core) (s : Nat) (lg : Bs) (vL : Value) (rest : Bs) (T' : Nat → Tag), CM wr T' i b c co vL s lg ∧ ScB wr T' t0 sb ⟨rest, false⟩ s ∧ Step (fun s => XT i s ∨ s = t0) w1 T1 wr T' ∧ Hid (R = foldT c co s lg rest) ∧ Hid (lg = [] → co = .zero ∧ rest = t) ∧ s < 256 ^ 4 ∧ lg.length + rest.length ≤ t.length) (fun _ wr => restLen wr sb)
  case atStart => exact ⟨.zero, seedS c, [], _, t, T1, hC1, hSc, Step.refl _ _ _, hide hR.out.symm, hide (fun _ => ⟨rfl, rfl⟩), hseed, by simp⟩
  case round =>
    obtain ⟨co, s, lg, vL, rest, T', hC, hS, hs, hfold, hz, hs4, hlen⟩ := hrel
    clear hC1 hSc hR
    have hrl := rest_len hS
    have lsb := hS.1.lt
    have q0 := hS.1.cell (rd_cell0 hS.2.1)
    have hem := mkB_empty rest
    have hL' := hLd1.step hs (fun h => h.elim (fun h => by simp [XT] at h) (fun h => hto h.symm))
    by_cases h0 : rest = []
    · have hem3 : (mkB rest).toList.isEmpty = true := by rw [hem]; simp [h0]
      replace hfold : Hid (R = some (co, s, lg)) := hide (by rw [hfold.out, h0, foldT_nil])
      clear hem h0 hS hL' hload hLd1
      have hsX : Step (XT i) w T wr T' := Step.less ((s1.mono (fun _ h => h.elim)).trans hs) (by rw [hsb]; exact hfr)
      generalize hwX : wr = wX at *
--TAIL
      obtain ⟨h1, h2, vB, mb2, f, ps, hB, hSb, hN, hG, hL⟩ := hC
      obtain ⟨hTm, n, D, hown, hsize, hhas, hat⟩ := hN
      have lb := hB.lt
      have c7 := hB.cell (j := 7) (v := .map (some mb2)) rfl
      go_wp2_with (first
        | (at_range; refine wpList_range_own _ rfl _ 99 rfl 9 129 law9 Tryz.underlying99 _ mb2 n _ rfl hown ?_; intro w3 hrg0 hg0 hs0)
        | go_in)
      (try go_frame)
      generalize hrr : wX.heap.size = r at *
      have g3 : Step (SA i) wX T' w3 (retag T' r .free) := step_grown hg0 (fun k hk => by cases hk) (fun k hk => retag_other T' r .free (by omega))
      have h3 : Step (fun _ => False) wX T' w3 (retag T' r .free) := step_grown hg0 (fun k hk => by cases hk) (fun k hk => retag_other T' r .free (by omega))
      go_loopw [11] (fun _ wq => ∃ (left : Lit → Bool) (cnt : Nat) (T3 : Nat → Tag), wq.ranges Tryz.prog 9 ptrElem mb2 r n D left cnt ∧ Step (SA i) wX T' wq T3 ∧ T3 r = .free ∧ ∀ k p, co.gs[k]? = some p → GM wq T3 i k (f k) (calmed left p.1 (ps k))) (fun _ wq => wq.rangeLeft mb2 r)
      case atStart =>
        refine ⟨_, _, retag T' r .free, hrg0, g3, retag_same _ _ _, fun k p hp => ?_⟩
        have hidx : (idx p.1 co.names).isSome = true := by
          cases hi : idx p.1 co.names with
          | some _ => rfl
          | none => exact absurd (List.mem_map.2 ⟨p, List.mem_of_getElem? hp, rfl⟩) (idx_none.1 hi)
        have hw : calmed (Maps.has D) p.1 (ps k) = ps k := by simp [calmed, hhas, hidx]
        rw [hw]
        exact (hG k p hp).1.step h3 (fun _ _ h => h)
      case round =>
        obtain ⟨left, cnt, T3, hrg, hs3, hTr, hGw⟩ := hrel
        clear hrg0 hg0 hs0 g3 h3
        have hrw : r < wr.heap.size := hrg.lt
        go_wp2_with (first
          | (at_next; refine wpList_next_groups _ rfl _ rfl mb2 r n _ _ _ co.names f hhas hat rfl hrg ?_ ?_)
          | go_in)
        · intro _ hl0
          go_wp2
          go_ret
          refine ⟨T3, hsX.trans (hs3.mono (fun t h => by obtain ⟨k, r, _, rfl⟩ := h; exact ⟨rfl, rfl⟩)), ?_⟩
          rw [hfold.out]
          refine ⟨rfl, vL, h1, h2, vB, mb2, f, hB.step hs3 (by rintro ⟨k, h⟩; exact nSG (by decide) h), hSb.step hs3 (by rintro ⟨k, h⟩; exact nSG (by decide) h), ⟨?_, n, D, hrg.owns, hsize, hhas, hat⟩, fun k p hp => ?_, hL.step hs3 (by rintro ⟨k, h⟩; exact nSG (by decide) h)⟩
          · rw [hs3.tag mb2 hown.lt]; exact hTm
          · have h5 := hGw k p hp
            have hw : calmed left p.1 (ps k) = p.2.pg := by simp [calmed, hl0, calm_core, (hG k p hp).2]
            rw [hw] at h5
            exact h5
        · intro x j w4 cnt4 hj hlx hrg4 hlt hg4 hs4 hen
          have g4 : Step (fun t => t = .free) wr T3 w4 T3 := step_grown hg4 (fun k hk => by cases hk; exact hTr) (fun _ _ => rfl)
          obtain ⟨gj, hgj⟩ := co_group hj.out
          have hGj := (hGw j _ hgj).step g4 (by simp)
          have hwk : calmed left x (ps j) = ps j := by simp [calmed, hlx.out]
          rw [hwk] at hGj
          have hs24 : Step (SA i) wX T' w4 T3 := hs3.grownNew (by omega) hg4
          obtain ⟨vD, vE, tb, wb, hBg, hD, hEd, hT, hW⟩ := hGj
          have l4 := hBg.lt
          have n4 := hBg.cell (j := 4) (v := .map (some wb)) rfl
          obtain ⟨w5, hrun5, hW5, s5⟩ := hW.clear
          go_wp2
          have hTm4 : T3 mb2 = .q i 2 0 := by rw [hs3.tag mb2 hown.lt]; exact hTm
          have s5' : Step (SG i j) w4 T3 w5 T3 := s5.mono (fun t h => by subst h; exact ⟨7, by decide, rfl⟩)
          have hrg5 := ranges_step hrg4 s5' (by rw [hTm4]; exact nSG (by decide)) (by rw [hTr]; exact nSGf)
          have hG5 : GM w5 T3 i j (f j) (calmP (ps j)) := ⟨vD, vE, tb, wb, hBg.step s5 (by simp), hD.step s5 (by simp), hEd.step s5 (by simp), hT.step s5 (by simp), hW5⟩
          refine ⟨⟨_, cnt4, T3, hrg5, hs24.trans (s5'.mono (fun t h => ⟨j, h⟩)), hTr, fun k p hp => ?_⟩, ?_⟩
          · by_cases hk : k = j
            · subst hk
              rw [hgj] at hp
              cases hp
              have hw : calmed (fun z => left z && !z.sameKey (keyL x)) x (ps k) = calmP (ps k) := by simp [calmed, same_str_self]
              rw [hw]
              exact hG5
            · have hne : p.1 ≠ x := by
                intro e
                have e1 : co.names[k]? = some x := by simp [Core.names, hp, e]
                have e2 : co.names[j]? = some x := by simp [Core.names, hgj]
                have hk1 := (List.getElem?_eq_some_iff.1 e1).1
                exact hk ((List.getElem?_inj hk1 h2.once).1 (e1.trans e2.symm))
              have hw : calmed (fun z => left z && !z.sameKey (keyL x)) p.1 (ps k) = calmed left p.1 (ps k) := by simp [calmed, same_str hne]
              rw [hw]
              exact ((hGw k p hp).step g4 (by simp)).step s5' (fun r _ => nSGk hk)
          · rw [hrg5.left_eq, hrg.left_eq]; exact hlt
--ENDTAIL
    · have hem3 : (mkB rest).toList.isEmpty = false := by rw [hem]; simp [h0]
      clear hem
      have hne : 0 < rest.length := List.length_pos_iff.2 h0
      have hsz : 0 < (mkB rest).size := by rw [mkB_size]; exact hne
      obtain ⟨k0, hk0⟩ : ∃ k0, Hid (rest.headD 0 = k0) := ⟨_, hide rfl⟩
      have hhd : ((mkB rest)[0]'hsz).toNat = k0.toNat := by
        rw [← hk0.out]
        cases rest with
        | nil => exact absurd rfl h0
        | cons x r => rfl
      have hrec := record_any t0 sb ⟨rest, false⟩ s a0 a1 wr T' hS hL' hto hs4 rfl
      go_wp2_with fail
      refine hrec.mono ?_
      rintro e1 w2 ⟨s2, hA⟩
      have hL2 := hL'.step s2 (fun h => hto h.symm)
      have hC2 := hC.step s2 (fun r k _ h => htq r k h)
      have hs2 : Step (fun s => XT i s ∨ s = t0) w1 T1 w2 T' := hs.trans (s2.mono (fun _ h => .inr h))
      have g0 := hL2.cut.cell
      have l0 := hL2.cut.lt
      have g1 := hL2.wrong.cell
      have l1 := hL2.wrong.lt
      clear hS hC hL' hem3 hhd q0
      have hif : Tryz.prog.isIface 126 = true := by kernel_rfl
      cases hsc : scanR s rest with
      | cut =>
        replace hA : recA w2 T' t0 sb a0 a1 e1 (scanR s rest) := hA
        rw [hsc] at hA
        obtain ⟨v, u, rfl⟩ := hA
        have hf := foldT_cut (c := c) (q := co) (lg := lg) hsc h0
        rw [hk0.out] at hf
        go_wp2_with fail
        refine (is_same a0 w2).mono ?_
        rintro e3 w3 ⟨rfl, rfl⟩
        go_wp2_with fail
        refine (mayBeCut_any k0 w3).mono ?_
        rintro e4 w4 ⟨rfl, rfl⟩
        have hsX : Step (XT i) w T w4 T' := Step.less ((s1.mono (fun _ h => h.elim)).trans hs2) (by rw [hsb]; exact hfr)
        cases hmc : mayCut k0
        · rw [hmc] at hf
          replace hfold : Hid (R = none) := hide (by rw [hfold.out, hf]; rfl)
          clear hf
          go_wp2
          go_ret
          exact ⟨T', hsX, by rw [hfold.out]; exact ⟨a0, rfl⟩⟩
        · rw [hmc] at hf
          replace hfold : Hid (R = some (co, s, lg)) := hide (by rw [hfold.out, hf]; rfl)
          clear hf hsc h0 hload hLd1 hL2 hs hs2 s2 g0 l0 g1 l1 hk0 hne hsz
          have hC := hC2
          clear hC2
          generalize hwX : w4 = wX at *
--TAIL2
          obtain ⟨h1, h2, vB, mb2, f, ps, hB, hSb, hN, hG, hL⟩ := hC
          obtain ⟨hTm, n, D, hown, hsize, hhas, hat⟩ := hN
          have lb := hB.lt
          have c7 := hB.cell (j := 7) (v := .map (some mb2)) rfl
          go_wp2_with (first
            | (at_range; refine wpList_range_own _ rfl _ 99 rfl 9 129 law9 Tryz.underlying99 _ mb2 n _ rfl hown ?_; intro w3 hrg0 hg0 hs0)
            | go_in)
          (try go_frame)
          generalize hrr : wX.heap.size = r at *
          have g3 : Step (SA i) wX T' w3 (retag T' r .free) := step_grown hg0 (fun k hk => by cases hk) (fun k hk => retag_other T' r .free (by omega))
          have h3 : Step (fun _ => False) wX T' w3 (retag T' r .free) := step_grown hg0 (fun k hk => by cases hk) (fun k hk => retag_other T' r .free (by omega))
          go_loopw [11] (fun _ wq => ∃ (left : Lit → Bool) (cnt : Nat) (T3 : Nat → Tag), wq.ranges Tryz.prog 9 ptrElem mb2 r n D left cnt ∧ Step (SA i) wX T' wq T3 ∧ T3 r = .free ∧ ∀ k p, co.gs[k]? = some p → GM wq T3 i k (f k) (calmed left p.1 (ps k))) (fun _ wq => wq.rangeLeft mb2 r)
          case atStart =>
            refine ⟨_, _, retag T' r .free, hrg0, g3, retag_same _ _ _, fun k p hp => ?_⟩
            have hidx : (idx p.1 co.names).isSome = true := by
              cases hi : idx p.1 co.names with
              | some _ => rfl
              | none => exact absurd (List.mem_map.2 ⟨p, List.mem_of_getElem? hp, rfl⟩) (idx_none.1 hi)
            have hw : calmed (Maps.has D) p.1 (ps k) = ps k := by simp [calmed, hhas, hidx]
            rw [hw]
            exact (hG k p hp).1.step h3 (fun _ _ h => h)
          case round =>
            obtain ⟨left, cnt, T3, hrg, hs3, hTr, hGw⟩ := hrel
            clear hrg0 hg0 hs0 g3 h3
            have hrw : r < wr.heap.size := hrg.lt
            go_wp2_with (first
              | (at_next; refine wpList_next_groups _ rfl _ rfl mb2 r n _ _ _ co.names f hhas hat rfl hrg ?_ ?_)
              | go_in)
            · intro _ hl0
              go_wp2
              go_ret
              refine ⟨T3, hsX.trans (hs3.mono (fun t h => by obtain ⟨k, r, _, rfl⟩ := h; exact ⟨rfl, rfl⟩)), ?_⟩
              rw [hfold.out]
              refine ⟨rfl, vL, h1, h2, vB, mb2, f, hB.step hs3 (by rintro ⟨k, h⟩; exact nSG (by decide) h), hSb.step hs3 (by rintro ⟨k, h⟩; exact nSG (by decide) h), ⟨?_, n, D, hrg.owns, hsize, hhas, hat⟩, fun k p hp => ?_, hL.step hs3 (by rintro ⟨k, h⟩; exact nSG (by decide) h)⟩
              · rw [hs3.tag mb2 hown.lt]; exact hTm
              · have h5 := hGw k p hp
                have hw : calmed left p.1 (ps k) = p.2.pg := by simp [calmed, hl0, calm_core, (hG k p hp).2]
                rw [hw] at h5
                exact h5
            · intro x j w4 cnt4 hj hlx hrg4 hlt hg4 hs4 hen
              have g4 : Step (fun t => t = .free) wr T3 w4 T3 := step_grown hg4 (fun k hk => by cases hk; exact hTr) (fun _ _ => rfl)
              obtain ⟨gj, hgj⟩ := co_group hj.out
              have hGj := (hGw j _ hgj).step g4 (by simp)
              have hwk : calmed left x (ps j) = ps j := by simp [calmed, hlx.out]
              rw [hwk] at hGj
              have hs24 : Step (SA i) wX T' w4 T3 := hs3.grownNew (by omega) hg4
              obtain ⟨vD, vE, tb, wb, hBg, hD, hEd, hT, hW⟩ := hGj
              have l4 := hBg.lt
              have n4 := hBg.cell (j := 4) (v := .map (some wb)) rfl
              obtain ⟨w5, hrun5, hW5, s5⟩ := hW.clear
              go_wp2
              have hTm4 : T3 mb2 = .q i 2 0 := by rw [hs3.tag mb2 hown.lt]; exact hTm
              have s5' : Step (SG i j) w4 T3 w5 T3 := s5.mono (fun t h => by subst h; exact ⟨7, by decide, rfl⟩)
              have hrg5 := ranges_step hrg4 s5' (by rw [hTm4]; exact nSG (by decide)) (by rw [hTr]; exact nSGf)
              have hG5 : GM w5 T3 i j (f j) (calmP (ps j)) := ⟨vD, vE, tb, wb, hBg.step s5 (by simp), hD.step s5 (by simp), hEd.step s5 (by simp), hT.step s5 (by simp), hW5⟩
              refine ⟨⟨_, cnt4, T3, hrg5, hs24.trans (s5'.mono (fun t h => ⟨j, h⟩)), hTr, fun k p hp => ?_⟩, ?_⟩
              · by_cases hk : k = j
                · subst hk
                  rw [hgj] at hp
                  cases hp
                  have hw : calmed (fun z => left z && !z.sameKey (keyL x)) x (ps k) = calmP (ps k) := by simp [calmed, same_str_self]
                  rw [hw]
                  exact hG5
                · have hne : p.1 ≠ x := by
                    intro e
                    have e1 : co.names[k]? = some x := by simp [Core.names, hp, e]
                    have e2 : co.names[j]? = some x := by simp [Core.names, hgj]
                    have hk1 := (List.getElem?_eq_some_iff.1 e1).1
                    exact hk ((List.getElem?_inj hk1 h2.once).1 (e1.trans e2.symm))
                  have hw : calmed (fun z => left z && !z.sameKey (keyL x)) p.1 (ps k) = calmed left p.1 (ps k) := by simp [calmed, same_str hne]
                  rw [hw]
                  exact ((hGw k p hp).step g4 (by simp)).step s5' (fun r _ => nSGk hk)
              · rw [hrg5.left_eq, hrg.left_eq]; exact hlt
--ENDTAIL2
      | wrong =>
        replace hA : recA w2 T' t0 sb a0 a1 e1 (scanR s rest) := hA
        rw [hsc] at hA
        obtain ⟨v, u, rfl⟩ := hA
        have hf := foldT_wrong (c := c) (q := co) (lg := lg) hsc h0
        replace hfold : Hid (R = none) := hide (by rw [hfold.out, hf])
        have hsX : Step (XT i) w T w2 T' := Step.less ((s1.mono (fun _ h => h.elim)).trans hs2) (by rw [hsb]; exact hfr)
        obtain ⟨ca, ta, hca⟩ := hL2.cut.goal
        obtain ⟨cb, tb, hcb⟩ := hL2.wrong.goal
        have hio := is_other a1 a0 cb ca tb ta w2 (fun e => hL2.ne e.symm) hcb hca
        clear hca hcb hf
        go_wp2_with fail
        refine hio.mono ?_
        rintro e3 w3 ⟨rfl, rfl⟩
        go_wp2
        go_ret
        exact ⟨T', hsX, by rw [hfold.out]; exact ⟨a1, rfl⟩⟩
      | got k d r s' =>
        replace hA : recA w2 T' t0 sb a0 a1 e1 (scanR s rest) := hA
        rw [hsc] at hA
        obtain ⟨rfl, hS2, hs5⟩ := hA
        have hf := foldT_got (c := c) (q := co) (lg := lg) hsc h0
        obtain ⟨hsum, hdl, hrl2⟩ := scan_words hsc
        have hrep := replay_any i b c co vL s lg k d w2 T' hC2 (by omega) (fun hl hk => by
          subst hl
          obtain ⟨rfl, hrt⟩ := hz.out rfl
          subst hrt
          subst hk
          exact hload (scan_kind hsc) d vL s w2 T' hC2 (by omega))
        go_wp2_with fail
        refine (is_nil a0 w2).mono ?_
        rintro e3 w3 ⟨rfl, rfl⟩
        go_wp2_with fail
        refine hrep.mono ?_
        rintro e4 w4 ⟨T4, s4, hr4⟩
        have hs24 : Step (fun s => XT i s ∨ s = t0) w1 T1 w4 T4 := hs2.trans (s4.mono (fun _ h => .inl h))
        have hL4 := hL2.step s4 (by simp [XT])
        have g4 := hL4.wrong.cell
        have l4 := hL4.wrong.lt
        have hS4 := hS2.step s4 htx
        cases hrc : replayC c co (decide (lg = [])) k d with
        | none =>
          rw [hrc] at hr4 hf
          obtain rfl := hr4
          replace hfold : Hid (R = none) := hide (by rw [hfold.out, hf])
          have hsX : Step (XT i) w T w4 T4 := Step.less ((s1.mono (fun _ h => h.elim)).trans hs24) (by rw [hsb]; exact hfr)
          clear hf
          go_wp2
          go_ret
          exact ⟨T4, hsX, by rw [hfold.out]; exact ⟨a1, rfl⟩⟩
        | some co' =>
          rw [hrc] at hr4 hf
          obtain ⟨rfl, hC4⟩ := hr4
          replace hfold : Hid (R = _) := hide (by rw [hfold.out, hf])
          have hadd := cadd_any i b c co' vL s lg k d w4 T4 hC4 (by omega) (by omega)
          have lb4 : b < w4.heap.size := by obtain ⟨_, _, _, _, _, _, hB, _⟩ := hC4; exact hB.lt
          clear hf
          go_wp2_with fail
          refine hadd.mono ?_
          rintro e6 w6 ⟨rfl, T6, vL6, s6, hC6⟩
          have hS6 := hS4.step s6 (fun h => by rcases h with h | h | h <;> exact htq _ _ h.symm)
          have hrl6 := rest_len hS6
          rw [← hsum] at hC6
          go_wp2
          refine ⟨⟨co', s', lg ++ recB s k d, vL6, r, T6, hC6, hS6, hs24.trans (s6.mono (fun t h => .inl (by rcases h with rfl | rfl | rfl <;> exact ⟨rfl, rfl⟩))), hfold, hide (fun e => absurd e (by simp [recB, headB])), hs5, ?_⟩, ?_⟩
          · rw [List.length_append, recB_length]; omega
          · rw [hrl6, hrl]; show r.length < rest.length; omega

end Go.Proofs.YtockkceclkcgbaaGreatDoor

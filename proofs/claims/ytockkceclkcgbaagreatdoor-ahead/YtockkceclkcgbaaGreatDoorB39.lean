/- restore: what Open makes of a text. -/
import Derived.Test.YtockkceclkcgbaaGreatDoorB38
import Derived.Test.YtockkceclkcgbaaGreatDoorB22
namespace Go.Proofs.YtockkceclkcgbaaGreatDoor
open Go.RowKit Go.Maps

/-- what load does is known -/
def LoadOk (i b : Nat) (c : Conf) : Prop := ∀ (d : Bs) (vL : Value) (ls : Nat) (w : World) (T : Nat → Tag), CM w T i b c .zero vL ls [] → d.length ≤ 100000000 →
  Calls Tryz.prog 128 #[.pointer (some ⟨b, 0, none⟩), .string (mkB d)] w fun e w' => ∃ T', Step (XT i) w T w' T' ∧ repA (fun co' => CM w' T' i b c co' vL ls []) e (loadC c d)
/-- what restore answers -/
def resA (i b : Nat) (c : Conf) (w' : World) (T' : Nat → Tag) (e : Ending) : Option (Core × Nat × Bs) → Prop
  | none => ∃ a, e = .returned (errV a)
  | some (co, s, lg) => e = .returned .nilIface ∧ ∃ vL, CO w' T' i b c co vL s lg

/-- a tag that no block bears -/
theorem fresh_tag (T : Nat → Tag) : ∀ n : Nat, ∃ m : Nat, ∀ k, k < n → ∀ j, m ≤ j → T k ≠ ⟨77, j, 0, 0⟩
  | 0 => ⟨0, fun k hk => absurd hk (by omega)⟩
  | n + 1 => by
    obtain ⟨m, hm⟩ := fresh_tag T n
    refine ⟨max m ((T n).i + 1), fun k hk j hj e => ?_⟩
    by_cases hkn : k = n
    · subst hkn
      rw [e] at hj
      simp at hj
      omega
    · exact hm k (by omega) j (by omega) e
theorem Step.less {S : Tag → Prop} {t0 : Tag} {w w' : World} {T T' : Nat → Tag} (h : Step (fun s => S s ∨ s = t0) w T w' T') (hf : ∀ k, k < w.heap.size → T k ≠ t0) : Step S w T w' T' :=
  ⟨h.os, h.tape, h.output, h.size, h.tag, fun k hk hS => h.block k hk (fun x => x.elim hS (hf k hk))⟩

def calmed (left : Lit → Bool) (nm : ByteArray) (p : PG) : PG := bif left (keyL nm) then p else calmP p
theorem co_group {co : Core} {s : ByteArray} {k : Nat} (h : idx s co.names = some k) : ∃ g, co.gs[k]? = some (s, g) := by
  obtain ⟨g, h1, _⟩ := core_some h
  exact ⟨g, h1⟩

set_option maxRecDepth 100000 in
set_option maxHeartbeats 4000000 in
theorem restore_any (c : Conf) (i b mb : Nat) (t : Bs) (a0 a1 : Addr) (w : World) (T : Nat → Tag) (hg : goodC c = true) (hB : Blk w T (.q i 0 0) b (freshQ c mb) 105) (hN : NM w T (.q i 2 0) mb [] (fun _ => 0)) (hLd : Laid w T a0 a1) (hload : t.head? = some 99 → LoadOk i b c) (ht : t.length ≤ 9223372036854775807) :
    Calls Tryz.prog 64 #[.pointer (some ⟨b, 0, none⟩), .string (mkB t)] w fun e w' => ∃ T', Step (XT i) w T w' T' ∧ resA i b c w' T' e (openT c t) := by
  have hC := cm_fresh hg hB hN
  obtain ⟨R, hR⟩ : ∃ R, Hid (openT c t = R) := ⟨_, hide rfl⟩
  rw [hR.out]
  have lb := hB.lt
  have c9 := hB.cell (j := 9) (v := .int .u32 (seedS c)) rfl
  obtain ⟨m0, hm0⟩ := fresh_tag T w.heap.size
  obtain ⟨t0, ht0⟩ : ∃ t0 : Tag, Hid (t0 = ⟨77, m0, 0, 0⟩) := ⟨_, hide rfl⟩
  have hfr : ∀ k, k < w.heap.size → T k ≠ t0 := fun k hk => by rw [ht0.out]; exact hm0 k hk m0 (Nat.le_refl _)
  have htx : ¬ XT i t0 := by rw [ht0.out]; simp [XT]
  have hto : t0 ≠ .old := by rw [ht0.out]; simp
  have htq : ∀ r k, Tag.q i r k ≠ t0 := fun r k => by rw [ht0.out]; simp
  clear hm0 ht0
  have s1 := step_new w T (.cells #[.string (mkB t), .bool false, .int .u32 (seedS c)] 163) t0 (fun _ => False)
  have hO := blk_new w T #[.string (mkB t), .bool false, .int .u32 (seedS c)] 163 t0
  have hSc : ScB (w.alloc (.cells #[.string (mkB t), .bool false, .int .u32 (seedS c)] 163)) (retag T w.heap.size t0) t0 w.heap.size ⟨t, false⟩ (seedS c) := ⟨hO, (by decide : 2 ≤ 3), by show t.length ≤ _; omega⟩
  have hC1 := hC.step s1 (fun _ _ _ h => h)
  have hLd1 := hLd.step s1 (fun h => h)
  have hseed : seedS c < 256 ^ 4 := crcF_lt _ _
  clear hB hN hLd hC hO
  go_enter Tryz.func64, Tryz.ntmps64
  go_wp2_with fail
  generalize retag T w.heap.size t0 = T1 at *
  generalize hww : w.alloc (.cells #[.string (mkB t), .bool false, .int .u32 (seedS c)] 163) = w1 at *
  generalize hsb : w.heap.size = sb at *
  clear hww lb c9
  go_loopw [6] (fun _ wr => ∃ (co : Core) (s : Nat) (lg : Bs) (vL : Value) (rest : Bs) (T' : Nat → Tag), CM wr T' i b c co vL s lg ∧ ScB wr T' t0 sb ⟨rest, false⟩ s ∧ Step (fun s => XT i s ∨ s = t0) w1 T1 wr T' ∧ Hid (R = foldT c co s lg rest) ∧ Hid (lg = [] → co = .zero ∧ rest = t) ∧ s < 256 ^ 4 ∧ Hid (Grown lg co)) (fun _ wr => restLen wr sb)
  case atStart => exact ⟨.zero, seedS c, [], _, t, T1, hC1, hSc, Step.refl _ _ _, hide hR.out.symm, hide (fun _ => ⟨rfl, rfl⟩), hseed, hide (grown_nil hC1.ok)⟩
  case round =>
    obtain ⟨co, s, lg, vL, rest, T', hC, hS, hs, hfold, hz, hs4, hlen⟩ := hrel
    clear hC1 hSc hR
    have hrl := rest_len hS
    have lsb := hS.1.lt
    have q0 := hS.1.cell (rd_cell0 hS.2.1)
    have hem := mkB_empty rest
    have hL' := hLd1.step hs (fun h => h.elim (fun h => by simp [XT] at h) (fun h => hto h.symm))
    by_cases h0 : rest = []
    · have hem3 : (mkB rest).toList.isEmpty = true := by rw [hem]; simp [h0]
      replace hfold : Hid (R = some (co, s, lg)) := hide (by rw [hfold.out, h0, foldT_nil])
      clear hem h0 hS hL' hload hLd1
      have hsX : Step (XT i) w T wr T' := Step.less ((s1.mono (fun _ h => h.elim)).trans hs) (by rw [hsb]; exact hfr)
      generalize hwX : wr = wX at *
--TAIL
      obtain ⟨h1, h2, vB, mb2, f, ps, hB, hSb, hN, hG, hL⟩ := hC
      obtain ⟨hTm, n, D, hown, hsize, hhas, hat⟩ := hN
      have lb := hB.lt
      have c7 := hB.cell (j := 7) (v := .map (some mb2)) rfl
      go_wp2_with (first
        | (at_range; refine wpList_range_own _ rfl _ 99 rfl 9 129 law9 Tryz.underlying99 _ mb2 n _ rfl hown ?_; intro w3 hrg0 hg0 hs0)
        | go_in)
      (try go_frame)
      generalize hrr : wX.heap.size = r at *
      have g3 : Step (SA i) wX T' w3 (retag T' r .free) := step_grown hg0 (fun k hk => by cases hk) (fun k hk => retag_other T' r .free (by omega))
      have h3 : Step (fun _ => False) wX T' w3 (retag T' r .free) := step_grown hg0 (fun k hk => by cases hk) (fun k hk => retag_other T' r .free (by omega))
      go_loopw [11] (fun _ wq => ∃ (left : Lit → Bool) (cnt : Nat) (T3 : Nat → Tag), wq.ranges Tryz.prog 9 ptrElem mb2 r n D left cnt ∧ Step (SA i) wX T' wq T3 ∧ T3 r = .free ∧ ∀ k p, co.gs[k]? = some p → GM wq T3 i k (f k) (calmed left p.1 (ps k))) (fun _ wq => wq.rangeLeft mb2 r)
      case atStart =>
        refine ⟨_, _, retag T' r .free, hrg0, g3, retag_same _ _ _, fun k p hp => ?_⟩
        have hidx : (idx p.1 co.names).isSome = true := by
          cases hi : idx p.1 co.names with
          | some _ => rfl
          | none => exact absurd (List.mem_map.2 ⟨p, List.mem_of_getElem? hp, rfl⟩) (idx_none.1 hi)
        have hw : calmed (Maps.has D) p.1 (ps k) = ps k := by simp [calmed, hhas, hidx]
        rw [hw]
        exact (hG k p hp).1.step h3 (fun _ _ h => h)
      case round =>
        obtain ⟨left, cnt, T3, hrg, hs3, hTr, hGw⟩ := hrel
        clear hrg0 hg0 hs0 g3 h3
        have hrw : r < wr.heap.size := hrg.lt
        go_wp2_with (first
          | (at_next; refine wpList_next_groups _ rfl _ rfl mb2 r n _ _ _ co.names f hhas hat rfl hrg ?_ ?_)
          | go_in)
        · intro _ hl0
          go_wp2
          go_ret
          refine ⟨T3, hsX.trans (hs3.mono (fun t h => by obtain ⟨k, r, _, rfl⟩ := h; exact ⟨rfl, rfl⟩)), ?_⟩
          rw [hfold.out]
          refine ⟨rfl, vL, h1, h2, vB, mb2, f, hB.step hs3 (by rintro ⟨k, h⟩; exact nSG (by decide) h), hSb.step hs3 (by rintro ⟨k, h⟩; exact nSG (by decide) h), ⟨?_, n, D, hrg.owns, hsize, hhas, hat⟩, fun k p hp => ?_, hL.step hs3 (by rintro ⟨k, h⟩; exact nSG (by decide) h)⟩
          · rw [hs3.tag mb2 hown.lt]; exact hTm
          · have h5 := hGw k p hp
            have hw : calmed left p.1 (ps k) = p.2.pg := by simp [calmed, hl0, calm_core, (hG k p hp).2]
            rw [hw] at h5
            exact h5
        · intro x j w4 cnt4 hj hlx hrg4 hlt hg4 hs4 hen
          have g4 : Step (fun t => t = .free) wr T3 w4 T3 := step_grown hg4 (fun k hk => by cases hk; exact hTr) (fun _ _ => rfl)
          obtain ⟨gj, hgj⟩ := co_group hj.out
          have hGj := (hGw j _ hgj).step g4 (by simp)
          have hwk : calmed left x (ps j) = ps j := by simp [calmed, hlx.out]
          rw [hwk] at hGj
          have hs24 : Step (SA i) wX T' w4 T3 := hs3.grownNew (by omega) hg4
          obtain ⟨vD, vE, tb, wb, hBg, hD, hEd, hT, hW⟩ := hGj
          have l4 := hBg.lt
          have n4 := hBg.cell (j := 4) (v := .map (some wb)) rfl
          obtain ⟨w5, hrun5, hW5, s5⟩ := hW.clear
          go_wp2
          have hTm4 : T3 mb2 = .q i 2 0 := by rw [hs3.tag mb2 hown.lt]; exact hTm
          have s5' : Step (SG i j) w4 T3 w5 T3 := s5.mono (fun t h => by subst h; exact ⟨7, by decide, rfl⟩)
          have hrg5 := ranges_step hrg4 s5' (by rw [hTm4]; exact nSG (by decide)) (by rw [hTr]; exact nSGf)
          have hG5 : GM w5 T3 i j (f j) (calmP (ps j)) := ⟨vD, vE, tb, wb, hBg.step s5 (by simp), hD.step s5 (by simp), hEd.step s5 (by simp), hT.step s5 (by simp), hW5⟩
          refine ⟨⟨_, cnt4, T3, hrg5, hs24.trans (s5'.mono (fun t h => ⟨j, h⟩)), hTr, fun k p hp => ?_⟩, ?_⟩
          · by_cases hk : k = j
            · subst hk
              rw [hgj] at hp
              cases hp
              have hw : calmed (fun z => left z && !z.sameKey (keyL x)) x (ps k) = calmP (ps k) := by simp [calmed, same_str_self]
              rw [hw]
              exact hG5
            · have hne : p.1 ≠ x := by
                intro e
                have e1 : co.names[k]? = some x := by simp [Core.names, hp, e]
                have e2 : co.names[j]? = some x := by simp [Core.names, hgj]
                have hk1 := (List.getElem?_eq_some_iff.1 e1).1
                exact hk ((List.getElem?_inj hk1 h2.once).1 (e1.trans e2.symm))
              have hw : calmed (fun z => left z && !z.sameKey (keyL x)) p.1 (ps k) = calmed left p.1 (ps k) := by simp [calmed, same_str hne]
              rw [hw]
              exact ((hGw k p hp).step g4 (by simp)).step s5' (fun r _ => nSGk hk)
          · rw [hrg5.left_eq, hrg.left_eq]; exact hlt
--ENDTAIL
    · have hem3 : (mkB rest).toList.isEmpty = false := by rw [hem]; simp [h0]
      clear hem
      have hne : 0 < rest.length := List.length_pos_iff.2 h0
      have hsz : 0 < (mkB rest).size := by rw [mkB_size]; exact hne
      obtain ⟨k0, hk0⟩ : ∃ k0, Hid (rest.headD 0 = k0) := ⟨_, hide rfl⟩
      have hhd : ((mkB rest)[0]'hsz).toNat = k0.toNat := by
        rw [← hk0.out]
        cases rest with
        | nil => exact absurd rfl h0
        | cons x r => rfl
      have hrec := record_any t0 sb ⟨rest, false⟩ s a0 a1 wr T' hS hL' hto hs4 rfl
      go_wp2_with fail
      refine hrec.mono ?_
      rintro e1 w2 ⟨s2, hA⟩
      have hL2 := hL'.step s2 (fun h => hto h.symm)
      have hC2 := hC.step s2 (fun r k _ h => htq r k h)
      have hs2 : Step (fun s => XT i s ∨ s = t0) w1 T1 w2 T' := hs.trans (s2.mono (fun _ h => .inr h))
      have g0 := hL2.cut.cell
      have l0 := hL2.cut.lt
      have g1 := hL2.wrong.cell
      have l1 := hL2.wrong.lt
      clear hS hC hL' hem3 hhd q0
      have hif : Tryz.prog.isIface 126 = true := by kernel_rfl
      cases hsc : scanR s rest with
      | cut =>
        replace hA : recA w2 T' t0 sb a0 a1 e1 (scanR s rest) := hA
        rw [hsc] at hA
        obtain ⟨v, u, rfl⟩ := hA
        have hf := foldT_cut (c := c) (q := co) (lg := lg) hsc h0
        rw [hk0.out] at hf
        go_wp2_with fail
        refine (is_same a0 w2).mono ?_
        rintro e3 w3 ⟨rfl, rfl⟩
        go_wp2_with fail
        refine (mayBeCut_any k0 w3).mono ?_
        rintro e4 w4 ⟨rfl, rfl⟩
        have hsX : Step (XT i) w T w4 T' := Step.less ((s1.mono (fun _ h => h.elim)).trans hs2) (by rw [hsb]; exact hfr)
        cases hmc : mayCut k0
        · rw [hmc] at hf
          replace hfold : Hid (R = none) := hide (by rw [hfold.out, hf]; rfl)
          clear hf
          go_wp2
          go_ret
          exact ⟨T', hsX, by rw [hfold.out]; exact ⟨a0, rfl⟩⟩
        · rw [hmc] at hf
          replace hfold : Hid (R = some (co, s, lg)) := hide (by rw [hfold.out, hf]; rfl)
          clear hf hsc h0 hload hLd1 hL2 hs hs2 s2 g0 l0 g1 l1 hk0 hne hsz
          have hC := hC2
          clear hC2
          generalize hwX : w4 = wX at *
--TAIL2
          obtain ⟨h1, h2, vB, mb2, f, ps, hB, hSb, hN, hG, hL⟩ := hC
          obtain ⟨hTm, n, D, hown, hsize, hhas, hat⟩ := hN
          have lb := hB.lt
          have c7 := hB.cell (j := 7) (v := .map (some mb2)) rfl
          go_wp2_with (first
            | (at_range; refine wpList_range_own _ rfl _ 99 rfl 9 129 law9 Tryz.underlying99 _ mb2 n _ rfl hown ?_; intro w3 hrg0 hg0 hs0)
            | go_in)
          (try go_frame)
          generalize hrr : wX.heap.size = r at *
          have g3 : Step (SA i) wX T' w3 (retag T' r .free) := step_grown hg0 (fun k hk => by cases hk) (fun k hk => retag_other T' r .free (by omega))
          have h3 : Step (fun _ => False) wX T' w3 (retag T' r .free) := step_grown hg0 (fun k hk => by cases hk) (fun k hk => retag_other T' r .free (by omega))
          go_loopw [11] (fun _ wq => ∃ (left : Lit → Bool) (cnt : Nat) (T3 : Nat → Tag), wq.ranges Tryz.prog 9 ptrElem mb2 r n D left cnt ∧ Step (SA i) wX T' wq T3 ∧ T3 r = .free ∧ ∀ k p, co.gs[k]? = some p → GM wq T3 i k (f k) (calmed left p.1 (ps k))) (fun _ wq => wq.rangeLeft mb2 r)
          case atStart =>
            refine ⟨_, _, retag T' r .free, hrg0, g3, retag_same _ _ _, fun k p hp => ?_⟩
            have hidx : (idx p.1 co.names).isSome = true := by
              cases hi : idx p.1 co.names with
              | some _ => rfl
              | none => exact absurd (List.mem_map.2 ⟨p, List.mem_of_getElem? hp, rfl⟩) (idx_none.1 hi)
            have hw : calmed (Maps.has D) p.1 (ps k) = ps k := by simp [calmed, hhas, hidx]
            rw [hw]
            exact (hG k p hp).1.step h3 (fun _ _ h => h)
          case round =>
            obtain ⟨left, cnt, T3, hrg, hs3, hTr, hGw⟩ := hrel
            clear hrg0 hg0 hs0 g3 h3
            have hrw : r < wr.heap.size := hrg.lt
            go_wp2_with (first
              | (at_next; refine wpList_next_groups _ rfl _ rfl mb2 r n _ _ _ co.names f hhas hat rfl hrg ?_ ?_)
              | go_in)
            · intro _ hl0
              go_wp2
              go_ret
              refine ⟨T3, hsX.trans (hs3.mono (fun t h => by obtain ⟨k, r, _, rfl⟩ := h; exact ⟨rfl, rfl⟩)), ?_⟩
              rw [hfold.out]
              refine ⟨rfl, vL, h1, h2, vB, mb2, f, hB.step hs3 (by rintro ⟨k, h⟩; exact nSG (by decide) h), hSb.step hs3 (by rintro ⟨k, h⟩; exact nSG (by decide) h), ⟨?_, n, D, hrg.owns, hsize, hhas, hat⟩, fun k p hp => ?_, hL.step hs3 (by rintro ⟨k, h⟩; exact nSG (by decide) h)⟩
              · rw [hs3.tag mb2 hown.lt]; exact hTm
              · have h5 := hGw k p hp
                have hw : calmed left p.1 (ps k) = p.2.pg := by simp [calmed, hl0, calm_core, (hG k p hp).2]
                rw [hw] at h5
                exact h5
            · intro x j w4 cnt4 hj hlx hrg4 hlt hg4 hs4 hen
              have g4 : Step (fun t => t = .free) wr T3 w4 T3 := step_grown hg4 (fun k hk => by cases hk; exact hTr) (fun _ _ => rfl)
              obtain ⟨gj, hgj⟩ := co_group hj.out
              have hGj := (hGw j _ hgj).step g4 (by simp)
              have hwk : calmed left x (ps j) = ps j := by simp [calmed, hlx.out]
              rw [hwk] at hGj
              have hs24 : Step (SA i) wX T' w4 T3 := hs3.grownNew (by omega) hg4
              obtain ⟨vD, vE, tb, wb, hBg, hD, hEd, hT, hW⟩ := hGj
              have l4 := hBg.lt
              have n4 := hBg.cell (j := 4) (v := .map (some wb)) rfl
              obtain ⟨w5, hrun5, hW5, s5⟩ := hW.clear
              go_wp2
              have hTm4 : T3 mb2 = .q i 2 0 := by rw [hs3.tag mb2 hown.lt]; exact hTm
              have s5' : Step (SG i j) w4 T3 w5 T3 := s5.mono (fun t h => by subst h; exact ⟨7, by decide, rfl⟩)
              have hrg5 := ranges_step hrg4 s5' (by rw [hTm4]; exact nSG (by decide)) (by rw [hTr]; exact nSGf)
              have hG5 : GM w5 T3 i j (f j) (calmP (ps j)) := ⟨vD, vE, tb, wb, hBg.step s5 (by simp), hD.step s5 (by simp), hEd.step s5 (by simp), hT.step s5 (by simp), hW5⟩
              refine ⟨⟨_, cnt4, T3, hrg5, hs24.trans (s5'.mono (fun t h => ⟨j, h⟩)), hTr, fun k p hp => ?_⟩, ?_⟩
              · by_cases hk : k = j
                · subst hk
                  rw [hgj] at hp
                  cases hp
                  have hw : calmed (fun z => left z && !z.sameKey (keyL x)) x (ps k) = calmP (ps k) := by simp [calmed, same_str_self]
                  rw [hw]
                  exact hG5
                · have hne : p.1 ≠ x := by
                    intro e
                    have e1 : co.names[k]? = some x := by simp [Core.names, hp, e]
                    have e2 : co.names[j]? = some x := by simp [Core.names, hgj]
                    have hk1 := (List.getElem?_eq_some_iff.1 e1).1
                    exact hk ((List.getElem?_inj hk1 h2.once).1 (e1.trans e2.symm))
                  have hw : calmed (fun z => left z && !z.sameKey (keyL x)) p.1 (ps k) = calmed left p.1 (ps k) := by simp [calmed, same_str hne]
                  rw [hw]
                  exact ((hGw k p hp).step g4 (by simp)).step s5' (fun r _ => nSGk hk)
              · rw [hrg5.left_eq, hrg.left_eq]; exact hlt
--ENDTAIL2
      | wrong =>
        replace hA : recA w2 T' t0 sb a0 a1 e1 (scanR s rest) := hA
        rw [hsc] at hA
        obtain ⟨v, u, rfl⟩ := hA
        have hf := foldT_wrong (c := c) (q := co) (lg := lg) hsc h0
        replace hfold : Hid (R = none) := hide (by rw [hfold.out, hf])
        have hsX : Step (XT i) w T w2 T' := Step.less ((s1.mono (fun _ h => h.elim)).trans hs2) (by rw [hsb]; exact hfr)
        obtain ⟨ca, ta, hca⟩ := hL2.cut.goal
        obtain ⟨cb, tb, hcb⟩ := hL2.wrong.goal
        have hio := is_other a1 a0 cb ca tb ta w2 (fun e => hL2.ne e.symm) hcb hca
        clear hca hcb hf
        go_wp2_with fail
        refine hio.mono ?_
        rintro e3 w3 ⟨rfl, rfl⟩
        go_wp2
        go_ret
        exact ⟨T', hsX, by rw [hfold.out]; exact ⟨a1, rfl⟩⟩
      | got k d r s' =>
        replace hA : recA w2 T' t0 sb a0 a1 e1 (scanR s rest) := hA
        rw [hsc] at hA
        obtain ⟨rfl, hS2, hs5⟩ := hA
        have hf := foldT_got (c := c) (q := co) (lg := lg) hsc h0
        obtain ⟨hsum, hdl, hrl2⟩ := scan_words hsc
        have hrep := replay_any i b c co vL s lg k d w2 T' hC2 (by omega) (fun hl hk => by
          subst hl
          obtain ⟨rfl, hrt⟩ := hz.out rfl
          subst hrt
          subst hk
          exact hload (scan_kind hsc) d vL s w2 T' hC2 (by omega))
        go_wp2_with fail
        refine (is_nil a0 w2).mono ?_
        rintro e3 w3 ⟨rfl, rfl⟩
        go_wp2_with fail
        refine hrep.mono ?_
        rintro e4 w4 ⟨T4, s4, hr4⟩
        have hs24 : Step (fun s => XT i s ∨ s = t0) w1 T1 w4 T4 := hs2.trans (s4.mono (fun _ h => .inl h))
        have hL4 := hL2.step s4 (by simp [XT])
        have g4 := hL4.wrong.cell
        have l4 := hL4.wrong.lt
        have hS4 := hS2.step s4 htx
        cases hrc : replayC c co (decide (lg = [])) k d with
        | none =>
          rw [hrc] at hr4 hf
          obtain rfl := hr4
          replace hfold : Hid (R = none) := hide (by rw [hfold.out, hf])
          have hsX : Step (XT i) w T w4 T4 := Step.less ((s1.mono (fun _ h => h.elim)).trans hs24) (by rw [hsb]; exact hfr)
          clear hf
          go_wp2
          go_ret
          exact ⟨T4, hsX, by rw [hfold.out]; exact ⟨a1, rfl⟩⟩
        | some co' =>
          rw [hrc] at hr4 hf
          obtain ⟨rfl, hC4⟩ := hr4
          replace hfold : Hid (R = _) := hide (by rw [hfold.out, hf])
          have hgb := hlen.out.bound hC2.ok
          have hadd := cadd_any i b c co' vL s lg k d w4 T4 hC4 (by omega) (by omega)
          have hnx := hide (grown_next (s := s) hlen.out hC2.ok hC4.ok hdl hrc)
          clear hgb
          have lb4 : b < w4.heap.size := by obtain ⟨_, _, _, _, _, _, hB, _⟩ := hC4; exact hB.lt
          clear hf
          go_wp2_with fail
          refine hadd.mono ?_
          rintro e6 w6 ⟨rfl, T6, vL6, s6, hC6⟩
          have hS6 := hS4.step s6 (fun h => by rcases h with h | h | h <;> exact htq _ _ h.symm)
          have hrl6 := rest_len hS6
          rw [← hsum] at hC6
          go_wp2
          refine ⟨⟨co', s', lg ++ recB s k d, vL6, r, T6, hC6, hS6, hs24.trans (s6.mono (fun t h => .inl (by rcases h with rfl | rfl | rfl <;> exact ⟨rfl, rfl⟩))), hfold, hide (fun e => absurd e (by simp [recB, headB])), hs5, ?_⟩, ?_⟩
          · exact hnx
          · rw [hrl6, hrl]; show r.length < rest.length; omega

end Go.Proofs.YtockkceclkcgbaaGreatDoor

/- What a snapshot tells of a message: setTries. -/
namespace Go.Proofs.YtockkceclkcgbaaGreatDoor
open Go.RowKit Go.Maps

set_option maxRecDepth 100000 in
set_option maxHeartbeats 1000000 in
theorem setTries_any (i k gb : Nat) (p : PG) (off t : Nat) (d : Int) (w : World) (T : Nat → Tag) (h : GM w T i k gb p) (hs : setB p.done = true) (ho : off < 400) (ht : t < 256) :
    Calls Tryz.prog 158 #[.pointer (some ⟨gb, 0, none⟩), .int .i64 off, .int .i64 t, .int .i64 d] w fun e w' => ∃ T', Step (SG i k) w T w' T' ∧ repA (fun g' => ∃ p', GM w' T' i k gb p' ∧ p'.core = g') e (p.core.setTries d off t) := by
  obtain ⟨R, hR⟩ : ∃ R, Hid (p.core.setTries d off t = R) := ⟨_, hide rfl⟩
  rw [hR.out]
  have lg := h.lt
  by_cases h1 : t = 255
  · have er : Hid (R = some (finishP p off).core) := hide (by rw [← hR.out, core_finish]; unfold CG.setTries; rw [if_pos h1])
    have hf := finish_any i k gb p off w T h hs ho
    subst h1
    go_enter Tryz.func158, Tryz.ntmps158
    go_wp2_with fail
    refine hf.mono ?_
    rintro e1 w1 ⟨rfl, T1, s1, hG1⟩
    go_wp2
    go_ret
    exact ⟨T1, s1, by rw [er.out]; exact ⟨rfl, _, hG1, rfl⟩⟩
  have z1 : ¬ (t : Int) = 255 := by omega
  by_cases h2 : d < t
  · have er : Hid (R = none) := hide (by rw [← hR.out]; unfold CG.setTries; rw [if_neg h1, if_pos h2])
    go_enter Tryz.func158, Tryz.ntmps158
    go_wp2
    go_ret
    exact ⟨T, Step.refl _ _ _, by rw [er.out]; rfl⟩
  by_cases h3 : t = 0
  · have er : Hid (R = some p.core) := hide (by rw [← hR.out]; unfold CG.setTries; rw [if_neg h1, if_neg h2, if_pos h3])
    subst h3
    go_enter Tryz.func158, Tryz.ntmps158
    go_wp2
    go_ret
    exact ⟨T, Step.refl _ _ _, by rw [er.out]; exact ⟨rfl, _, h, rfl⟩⟩
  · have er : Hid (R = some { p.core with tr := upd p.core.tr off t }) := hide (by rw [← hR.out]; unfold CG.setTries; rw [if_neg h1, if_neg h2, if_neg h3])
    have z3 : (0 : Int) < t := by omega
    obtain ⟨vD, vE, tb, wb, hBg, hD, hEd, hT, hW⟩ := h
    have d3 := hBg.cell (j := 3) (v := .map (some tb)) rfl
    obtain ⟨w1, hrun, hT1, s1⟩ := hT.store ho t (wfI ⟨by omega, by omega⟩)
    go_enter Tryz.func158, Tryz.ntmps158
    go_wp2
    go_ret
    refine ⟨T, s1.mono (fun s h => by subst h; exact ⟨6, by decide, rfl⟩), ?_⟩
    rw [er.out]
    exact ⟨rfl, ⟨p.start, p.done, p.dead, upd p.tr off t, p.wt⟩, ⟨vD, vE, tb, wb, hBg.step s1 (by simp), hD.step s1 (by simp), hEd.step s1 (by simp), hT1, hW.step s1 (by simp)⟩, rfl⟩

end Go.Proofs.YtockkceclkcgbaaGreatDoor

/- What a snapshot makes keeps what holds of every queue. -/
namespace Go.Proofs.YtockkceclkcgbaaGreatDoor

theorem gok_tries {c : Conf} {q : Core} {g g' : CG} {o : Int} {t : Nat} (h : GOk c q g) (h0 : 0 ≤ q.floor) (h4 : q.stop ≤ 400) (h1 : q.first g ≤ o) (h2 : o < q.stop) (hd : hasB g.done o = false) (he : g.setTries c.d o t = some g') : GOk c q g' := by
  unfold CG.setTries at he
  split at he
  · cases he
    exact gok_finish h h0 h4 h1 h2
  · split at he
    · cases he
    · split at he
      · cases he
        exact h
      · cases he
        rename_i n1 n2 n3
        refine ⟨h.start, h.set, h.done, h.low, fun n => ?_, fun n hn => ?_, fun n hn => ?_, h.dead, h.once⟩
        · show 0 ≤ upd g.tr o t n ∧ upd g.tr o t n ≤ c.d
          unfold upd
          split
          · omega
          · exact h.tr n
        · show upd g.tr o t n = 0
          have hn' : hasB g.done n = true := hn
          unfold upd
          split
          · rename_i e
            subst e
            rw [hd] at hn'
            cases hn'
          · exact h.gone n hn'
        · have hn' : upd g.tr o t n ≠ 0 := hn
          show q.first g ≤ n ∧ n < q.stop
          unfold upd at hn'
          split at hn'
          · rename_i e
            subst e
            exact ⟨h1, h2⟩
          · exact h.out n hn'
theorem gok_dead {c : Conf} {q : Core} {g : CG} {o : Int} {s : ByteArray} (h : GOk c q g) (hk : deadOk q g o s = true) : GOk c q { g with dead := g.dead ++ [⟨o, c.d, s⟩] } := by
  simp [deadOk] at hk
  obtain ⟨⟨⟨k1, k2⟩, k3⟩, k4⟩ := hk
  refine ⟨h.start, h.set, h.done, h.low, h.tr, h.gone, h.out, fun x hx => ?_, ?_⟩
  · rcases List.mem_append.1 hx with hx | hx
    · exact h.dead x hx
    · simp at hx
      subst hx
      exact ⟨k1, rfl, k3, fun hf => by
        have hf' : q.floor ≤ o := hf
        rcases k4 with k4 | k4
        · omega
        · exact k4⟩
  · show ((g.dead ++ [(⟨o, c.d, s⟩ : Dl)]).map (fun x => x.off)).Nodup
    rw [List.map_append, List.nodup_append]
    refine ⟨h.once, by simp, ?_⟩
    intro a ha b hb
    simp at hb
    subst hb
    obtain ⟨y, hy, rfl⟩ := List.mem_map.1 ha
    exact k2 y hy

theorem done_tries {c : Conf} {q : Core} {g g' : CG} {o : Int} {t : Nat} (h : GOk c q g) (h0 : 0 ≤ o) (h4 : o < 400) (hd : ∀ n, hasB g.done n = true → n < o) (he : g.setTries c.d o t = some g') : (∀ n, hasB g'.done n = true → n < o + 1) ∧ g'.start = g.start := by
  unfold CG.setTries at he
  split at he
  · cases he
    refine ⟨fun n hn => ?_, rfl⟩
    have hr : isR o o = true := by simp [isR]; omega
    rw [show (g.finish o o).done = addTo g.done o o from rfl, addTo_has n h.set hr, Bool.or_eq_true] at hn
    rcases hn with hn | hn
    · have := hd n hn; omega
    · simp [withinB] at hn; omega
  · split at he
    · cases he
    · split at he
      · cases he
        exact ⟨fun n hn => by have := hd n hn; omega, rfl⟩
      · cases he
        exact ⟨fun n hn => by have := hd n hn; omega, rfl⟩
theorem gok_start {c : Conf} {q : Core} (h : COk c q) {st : Int} (h0 : 0 ≤ st) (h1 : st ≤ q.stop) : GOk c q (startG q st) ∧ ∀ n, hasB (startG q st).done n = true → n < q.first (startG q st) := by
  unfold startG
  by_cases hlt : st < q.floor
  · rw [decide_eq_true hlt, cond_true]
    have hsp := h.stop
    have hfl : q.floor ≤ q.stop := by unfold Core.stop; omega
    have hr : isR st (q.floor - 1) = true := by simp [isR]; omega
    have hhas : ∀ n, hasB ((CG.new st).finish st (q.floor - 1)).done n = withinB st (q.floor - 1) n := fun n => by
      rw [show ((CG.new st).finish st (q.floor - 1)).done = addTo [] st (q.floor - 1) from rfl, addTo_has n setB_nil' hr, hasB_nil']
      rfl
    have hw : ∀ n, withinB st (q.floor - 1) n = true ↔ st ≤ n ∧ n ≤ q.floor - 1 := fun n => by simp [withinB]
    have htr : ∀ n, ((CG.new st).finish st (q.floor - 1)).tr n = 0 := fun n => by
      show clr 0 (fun _ => 0) st (q.floor - 1) n = 0
      unfold clr
      split <;> rfl
    refine ⟨⟨⟨h0, h1⟩, addTo_setB setB_nil' hr, fun n hn => ?_, fun n a b => ?_, fun n => ?_, fun n _ => htr n, fun n hn => absurd (htr n) hn, fun x hx => ?_, ?_⟩, fun n hn => ?_⟩
    · rw [hhas, hw] at hn
      show st ≤ n ∧ n < q.stop
      omega
    · rw [hhas, hw]
      have : st ≤ n := a
      omega
    · rw [htr]
      have := h.d
      omega
    · have : x ∈ ([] : List Dl) := hx
      cases this
    · show ([] : List Int).Nodup
      simp
    · rw [hhas, hw] at hn
      show n < max q.floor st
      omega
  · rw [decide_eq_false hlt, cond_false]
    refine ⟨gok_new h (by omega) h1, fun n hn => ?_⟩
    have : hasB [] n = true := hn
    rw [hasB_nil'] at this
    cases this

end Go.Proofs.YtockkceclkcgbaaGreatDoor

/- Whether a message is dead to a group: isDead. -/
namespace Go.Proofs.YtockkceclkcgbaaGreatDoor
open Go.RowKit Go.Maps

attribute [local go_sem] over_cell

set_option maxHeartbeats 1000000 in
theorem deadIs_any (off tr n : Int) (s : ByteArray) (q : Nat) (w : World) (hq : q < w.heap.size) (hc : w.cell? ⟨q, 0, none⟩ = some (.int .i64 n)) :
    Calls Tryz.prog 179 #[.agg #[.int .i64 off, .int .i64 tr, .string s], .pointer (some ⟨q, 0, none⟩)] w fun e w' => e = .returned (.bool (off == n)) ∧ Below w.heap.size w w' := by
  have a1 := (Below.refl w.heap.size w).alloc (Nat.le_refl _) (.cells #[.int .i64 off, .int .i64 tr, .string s] 82)
  have hc2 : (w.alloc (.cells #[.int .i64 off, .int .i64 tr, .string s] 82)).cell? ⟨q, 0, none⟩ = some (.int .i64 n) := (a1.cell (p := ⟨q, 0, none⟩) hq).trans hc
  go_enter Tryz.func179, Tryz.ntmps179
  go_wp2
  go_ret
  exact ⟨rfl, a1⟩

theorem any_take {l : List Dl} {f : Dl → Bool} {k : Nat} {x : Dl} (h : l[k]? = some x) : (l.take (k + 1)).any f = ((l.take k).any f || f x) := by
  obtain ⟨hl, rfl⟩ := List.getElem?_eq_some_iff.1 h
  rw [List.take_succ_eq_append_getElem hl, List.any_append]
  simp

set_option maxRecDepth 100000 in
set_option maxHeartbeats 2000000 in
theorem indexFunc_any (t : Tag) (v : Value) (l : List Dl) (n : Int) (q : Nat) (w : World) (T : Nat → Tag) (h : Row w T t 82 3 v l.length (dlVals l)) (hl : l.length ≤ 100000) (hq : q < w.heap.size) (hc : w.cell? ⟨q, 0, none⟩ = some (.int .i64 n)) :
    Calls Tryz.prog 181 #[v, .func (.func 179) #[] #[.pointer (some ⟨q, 0, none⟩)]] w fun e w' => ∃ k : Int, e = .returned (.int .i64 k) ∧ Hid (decide (0 ≤ k) = l.any (fun x => decide (x.off = n))) ∧ Below w.heap.size w w' := by
  obtain ⟨ao, cap, rfl⟩ := row_form h
  go_enter Tryz.func181, Tryz.ntmps181
  go_wp2_with fail
  go_loopw [8] (fun u8 wr => ∃ k : Nat, k ≤ l.length ∧ u8 = .int .i64 k ∧ Hid ((l.take k).any (fun x => decide (x.off = n)) = false) ∧ Below w.heap.size w wr) (fun u8 _ => l.length - (intOf u8).toNat)
  case atStart => exact ⟨0, Nat.zero_le _, rfl, hide (by simp), Below.refl _ _⟩
  case round =>
    obtain ⟨k, hk, rfl, hno, hb⟩ := hrel
    by_cases hlt : k < l.length
    · obtain ⟨x, hx⟩ : ∃ x, l[k]? = some x := ⟨_, List.getElem?_eq_getElem hlt⟩
      have g1 := step_below (fun _ => False) T hb
      have hr := h.step g1 (fun h => h)
      obtain ⟨g, cap2, e⟩ := row_some hr (by omega)
      cases e
      obtain ⟨x0, x1, x2⟩ := dlVals_at l k x hx
      have y0 := hr.cell x0
      have y1 := hr.cell x1
      have y2 := hr.cell x2
      have lr := hr.lt
      have hq2 : q < wr.heap.size := Nat.lt_of_lt_of_le hq hb.size
      have hc2 : wr.cell? ⟨q, 0, none⟩ = some (.int .i64 n) := (hb.cell (p := ⟨q, 0, none⟩) hq).trans hc
      have hdi := deadIs_any x.off x.tr n x.body q wr hq2 hc2
      clear x0 x1 x2
      go_wp2_with fail
      refine hdi.mono ?_
      rintro e1 w1 ⟨rfl, hb1⟩
      have hb2 : Below w.heap.size w w1 := hb.trans (hb1.mono hb.size)
      cases hz : (x.off == n)
      · have hno2 : Hid ((l.take (k + 1)).any (fun x => decide (x.off = n)) = false) := hide (by
          rw [any_take hx, hno.out]
          simpa using hz)
        clear hx
        go_wp2
        exact ⟨⟨k + 1, by omega, by simp, hno2, hb2⟩, by simp [intOf]; omega⟩
      · have hyes : l.any (fun x => decide (x.off = n)) = true := List.any_eq_true.2 ⟨x, List.mem_of_getElem? hx, by simpa using hz⟩
        replace hyes := hide hyes
        clear hx
        go_wp2
        go_ret
        exact ⟨k, rfl, hide (by rw [hyes.out]; simp), hb2⟩
    · go_wp2
      go_ret
      refine ⟨-1, rfl, hide ?_, hb⟩
      rw [List.take_of_length_le (by omega)] at hno
      rw [hno.out]
      rfl

set_option maxHeartbeats 1000000 in
theorem containsFunc_any (t : Tag) (v : Value) (l : List Dl) (n : Int) (q : Nat) (w : World) (T : Nat → Tag) (h : Row w T t 82 3 v l.length (dlVals l)) (hl : l.length ≤ 100000) (hq : q < w.heap.size) (hc : w.cell? ⟨q, 0, none⟩ = some (.int .i64 n)) :
    Calls Tryz.prog 178 #[v, .func (.func 179) #[] #[.pointer (some ⟨q, 0, none⟩)]] w fun e w' => e = .returned (.bool (l.any (fun x => decide (x.off = n)))) ∧ Below w.heap.size w w' := by
  have hix := indexFunc_any t v l n q w T h hl hq hc
  obtain ⟨ao, cap, rfl⟩ := row_form h
  go_enter Tryz.func178, Tryz.ntmps178
  go_wp2_with fail
  refine hix.mono ?_
  rintro e1 w1 ⟨k, rfl, hk, hb⟩
  go_wp2
  go_ret
  exact ⟨by rw [← hk.out]; rfl, hb⟩

set_option maxHeartbeats 1000000 in
theorem isDead_any (i k gb : Nat) (p : PG) (n : Int) (w : World) (T : Nat → Tag) (h : GM w T i k gb p) (hl : p.dead.length ≤ 100000) :
    Calls Tryz.prog 171 #[.pointer (some ⟨gb, 0, none⟩), .int .i64 n] w fun e w' => e = .returned (.bool (p.dead.any (fun x => decide (x.off = n)))) ∧ Below w.heap.size w w' := by
  have hmf : ∀ (fn : Fn) (first cap : Array Value) (w : World), (Instr.makeFunc fn first cap).run Tryz.prog w = .ok (.func fn first cap) w := fun _ _ _ _ => rfl
  have s1 := step_new w T (.cells #[.int .i64 n] 3) .free (fun _ => False)
  have hO := blk_new w T #[.int .i64 n] 3 .free
  have a1 := (Below.refl w.heap.size w).alloc (Nat.le_refl _) (.cells #[.int .i64 n] 3)
  have hG := h.step s1 (fun _ _ h => h)
  obtain ⟨vD, vE, tb, wb, hBg, hD, hEd, hT, hW⟩ := hG
  have lg := hBg.lt
  have d2 := hBg.cell (j := 2) (v := vE) rfl
  have hix := containsFunc_any _ vE p.dead n w.heap.size _ _ hEd hl hO.lt (hO.cell (j := 0) rfl)
  obtain ⟨eo, ec, rfl⟩ := row_form hEd
  clear h hBg hD hEd hT hW s1 hO
  go_enter Tryz.func171, Tryz.ntmps171
  go_wp2_with fail
  refine hix.mono ?_
  rintro e1 w1 ⟨rfl, hb⟩
  go_wp2
  go_ret
  exact ⟨rfl, a1.trans (hb.mono (by simp))⟩

end Go.Proofs.YtockkceclkcgbaaGreatDoor

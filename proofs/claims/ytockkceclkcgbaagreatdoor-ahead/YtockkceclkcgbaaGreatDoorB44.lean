/- What Compact writes: snapshot. -/
import Derived.Test.YtockkceclkcgbaaGreatDoorB43
namespace Go.Proofs.YtockkceclkcgbaaGreatDoor
open Go.RowKit Go.Maps

/-- the groups, in the order of their names -/
def sortG (q : Core) : List (ByteArray × CG) := (sortN q.names).map (fun s => (s, (q.find s).getD (CG.new 0)))
theorem sortG_perm {q : Core} (hn : q.names.Nodup) : (sortG q).Perm q.gs := by
  unfold sortG
  refine ((sortN_perm q.names).map _).trans ?_
  unfold Core.names
  rw [List.map_map]
  have : q.gs.map ((fun s => (s, (q.find s).getD (CG.new 0))) ∘ fun p => p.1) = q.gs.map id := by
    refine List.map_congr_left (fun p hp => ?_)
    have h1 : q.find p.1 = some p.2 := (find_mem hn).2 hp
    simp [h1]
  rw [this, List.map_id]
theorem Same.sortG {q r : Core} (h : Same q r) (hn : r.names.Nodup) : sortG q = sortG r := by
  have hq : q.names.Nodup := (h.names.nodup_iff).2 hn
  unfold Go.Proofs.YtockkceclkcgbaaGreatDoor.sortG
  rw [sortN_eq h.names]
  refine List.map_congr_left (fun s hs => ?_)
  have hs2 : s ∈ r.names := (sortN_perm r.names).mem_iff.1 hs
  obtain ⟨p, hp, rfl⟩ := List.mem_map.1 hs2
  rw [(find_mem hn).2 hp, (find_mem hq).2 (h.gs.mem_iff.2 hp)]

/-- what is being written does not touch the queue -/
theorem XM.stepW {w w' : World} {T T' : Nat → Tag} {i b : Nat} {m : MQ} {vL vS : Value} {lg : Bs} (h : XM w T i b m vL vS lg) (hs : Step (fun t => t = wT i) w T w' T') : XM w' T' i b m vL vS lg := by
  obtain ⟨h1, h2, h3, h4, h5, vB, mb, f, ps, hB, hR, hN, hG, hL⟩ := h
  exact ⟨h1, h2, h3, h4, h5, vB, mb, f, ps, hB.step hs (by simp), hR.step hs (by simp), hN.step hs (by simp), fun k g hg => ⟨(hG k g hg).1.step hs (fun r hr => by simp; omega), (hG k g hg).2⟩, hL.step hs (by simp)⟩
theorem text_len : ∀ (l : List ByteArray), (∀ s ∈ l, s.size ≤ 64) → (l.flatMap textB).length ≤ 65 * l.length
  | [], _ => by simp
  | s :: r, h => by
    have h1 := h s (by simp)
    have h2 := text_len r (fun y hy => h y (by simp [hy]))
    have h3 : s.data.toList.length = s.size := Array.length_toList
    simp only [List.flatMap_cons, List.length_append, List.length_cons, textB]
    omega
theorem putTwo_any (i : Nat) (a c : Int) (w : World) (T : Nat → Tag) (ha : 0 ≤ a ∧ a < 65536) (hc : 0 ≤ c ∧ c < 65536) :
    Calls Tryz.prog 94 #[.slice none 0 0, .slice (some ⟨w.heap.size, 0, none⟩) 2 2] (w.alloc (.cells #[.int .i64 a, .int .i64 c] 3)) fun e w' => ∃ v' T', e = .returned v' ∧ Step (fun s => s = wT i) w T w' T' ∧ BRow w' T' (wT i) v' (encN 2 a.toNat ++ encN 2 c.toNat) := by
  have sn := step_new w T (.cells #[.int .i64 a, .int .i64 c] 3) .free (fun _ => False)
  have hp := putNumbers_any (wT i) .free _ _ [] [a, c] _ _ (brow_nil _ _ _) (rowN_two w T .free a c) (by simp) (by simp; omega) (by simp)
  rw [nums_two, List.nil_append] at hp
  refine hp.mono ?_
  rintro e w' ⟨v', T', rfl, s', r'⟩
  exact ⟨v', T', rfl, (sn.mono (fun _ h => h.elim)).trans s', r'⟩
theorem flat_snoc {α : Type} {l : List α} {k : Nat} {x : α} (f : α → Bs) (h : l[k]? = some x) : (l.take (k + 1)).flatMap f = (l.take k).flatMap f ++ f x := by
  obtain ⟨hl, rfl⟩ := List.getElem?_eq_some_iff.1 h
  rw [List.take_succ_eq_append_getElem hl, List.flatMap_append]
  simp
theorem group_len {q : Core} {p : ByteArray × CG} (h1 : p.1.size ≤ 16) (h2 : q.stop - q.first p.2 ≤ 400) (h3 : p.2.dead.length ≤ 400) (h4 : ∀ x ∈ p.2.dead, x.body.size ≤ 64) : (groupB q p).length ≤ 30000 := by
  have h5 := flat_len p.2.dead h4
  have h6 : p.1.data.toList.length = p.1.size := Array.length_toList
  unfold groupB
  simp only [List.length_append, textB, List.length_cons, encN_length, tries_len]
  omega

attribute [local go_sem] over_cell

set_option maxRecDepth 100000 in
set_option maxHeartbeats 4000000 in
theorem snapshot_any (i b : Nat) (m : MQ) (vL vS : Value) (lg : Bs) (w : World) (T : Nat → Tag) (h : XM w T i b m vL vS lg) (hok : m.Ok) (hcok : COk m.c (coreM m)) :
    Calls Tryz.prog 65 #[.pointer (some ⟨b, 0, none⟩)] w fun e w' => ∃ v T', e = .returned v ∧ Step (fun s => s = wT i) w T w' T' ∧ BRow w' T' (wT i) v (snapB (coreM m) (sortG (coreM m))) := by
  have hflr := hok.fl
  have hsm := h.small
  have hrels := h.rels
  have hnd := h.nodup
  have hshort := h.short
  have hfew := h.few
  obtain ⟨q, hq⟩ : ∃ q, Hid (coreM m = q) := ⟨_, hide rfl⟩
  have hqf : q.floor = m.floor := by rw [← hq.out]; rfl
  have hqb : q.bodies = m.bodies.drop m.floor.toNat := by rw [← hq.out]; rfl
  have hqn : q.names = m.names := by rw [← hq.out]; exact coreM_names m
  have hqst : q.stop = m.bodies.length := by rw [← hq.out]; exact coreM_stop hok
  rw [hq.out] at hcok
  have hqbl : (q.bodies.length : Int) = m.bodies.length - m.floor := by rw [hqb, List.length_drop]; omega
  have hbs : ∀ s ∈ q.bodies, s.size ≤ 64 := hcok.short
  have hfind : ∀ k g, m.groups[k]? = some g → q.find g.name = some (coreG m g) := fun k g hg => by
    rw [← hq.out]
    exact (find_mem (by rw [coreM_names]; exact hnd)).2 (List.mem_map.2 ⟨g, List.mem_of_getElem? hg, rfl⟩)
  rw [hq.out]
  -- the queue's parts, in any world that the writing leaves
  obtain ⟨_, _, _, _, _, vB, mb, f, ps, hB, hS, hN, hG, hL⟩ := h
  rw [← hqb] at hS
  rw [← hqf] at hB
  obtain ⟨ao, cap, rfl, hS2⟩ := id hS
  rw [List.length_map] at hB
  have keep : ∀ (w1 : World) (T1 : Nat → Tag), Step (fun s => s = wT i) w T w1 T1 → Blk w1 T1 (.q i 0 0) b _ 105 ∧ Sub w1 T1 (.q i 1 0) _ (q.bodies.map .string) ∧ NM w1 T1 (.q i 2 0) mb m.names f ∧ ∀ k g, m.groups[k]? = some g → GM w1 T1 i k (f k) (ps k) ∧ RelG m g (ps k) := fun w1 T1 hs =>
    ⟨hB.step hs (by simp), hS.step hs (by simp), hN.step hs (by simp), fun k g hg => ⟨(hG k g hg).1.step hs (fun r hr => by simp; omega), (hG k g hg).2⟩⟩
  have gd := step_below (fun _ => False) T (Below.refl w.heap.size w).drew
  have c5 := hB.cell (j := 5) (v := .int .i64 q.floor) rfl
  have c6 := hB.cell (j := 6) (v := .slice ao q.bodies.length cap) rfl
  have lb := hB.lt
  have hp1 := putTwo_any i q.floor q.bodies.length w.drew T (by omega) (by omega)
  rw [Int.toNat_natCast] at hp1
  replace hqf := hide hqf
  replace hqb := hide hqb
  replace hqn := hide hqn
  replace hqst := hide hqst
  replace hqbl := hide hqbl
  clear hS2 hL hB hS hN hG hq
  go_enter Tryz.func65, Tryz.ntmps65
  go_wp2_with fail
  go_region_held3 (fun w' => w'.cell? ⟨b, 5, none⟩ = some (.int .i64 q.floor) ∧ w'.cell? ⟨b, 6, none⟩ = some (.slice ao q.bodies.length cap)) (go_keep) ((go_at_call 94; refine hp1.mono ?_; clear hp1; rintro e1 w1 ⟨v1, T1, rfl, s1, r1⟩; have s01 := (gd.mono (fun _ h => (h.elim : _ = wT i))).trans s1; have k1 := (keep _ _ s01).1; have k5 := k1.cell (j := 5) (v := .int .i64 q.floor) rfl; have k6 := k1.cell (j := 6) (v := .slice ao q.bodies.length cap) rfl; have kl := k1.lt))
  all_goals
    clear c5 c6 lb gd s1 k1
    have hL1 := Nat.le_refl (encN 2 q.floor.toNat ++ encN 2 q.bodies.length).length
    rw [List.length_append, encN_length, encN_length] at hL1
    obtain ⟨L1, hL1e⟩ : ∃ L1, Hid (encN 2 q.floor.toNat ++ encN 2 q.bodies.length = L1) := ⟨_, hide rfl⟩
    rw [hL1e.out] at r1
    have hL1l : L1.length = 4 := by rw [← hL1e.out, List.length_append, encN_length, encN_length]
    have hbl4 : q.bodies.length ≤ 400 := by have := hqbl.out; omega
    have hkey : Hid (snapB q (sortG q) = L1 ++ q.bodies.flatMap textB ++ encN 2 (sortG q).length ++ (sortG q).flatMap (groupB q)) := hide (by unfold snapB; rw [← hL1e.out]; simp)
    clear hL1 hL1e
    go_wp2_with fail
    go_loopw [3, 24] (fun u3 u24 wr => ∃ (j : Nat) (T' : Nat → Tag), j ≤ q.bodies.length ∧ u24 = .int .i64 j ∧ Step (fun s => s = wT i) w T wr T' ∧ BRow wr T' (wT i) u3 (L1 ++ (q.bodies.take j).flatMap textB)) (fun _ u24 _ => q.bodies.length - (intOf u24).toNat)
    case atStart => exact ⟨0, T1, Nat.zero_le _, rfl, s01, by simpa using r1⟩
    case round =>
      obtain ⟨j, T2, hj, rfl, s2, r2⟩ := hrel
      clear s01 r1 k5 k6 kl
      obtain ⟨kB, kS, kN, kG⟩ := keep _ _ s2
      by_cases hjl : j < q.bodies.length
      · obtain ⟨x, hx⟩ : ∃ x, q.bodies[j]? = some x := ⟨_, List.getElem?_eq_getElem hjl⟩
        obtain ⟨g2, off2, cap2, e2, hc2, lg2⟩ := kS.cell (j := j) (u := .string x) (by rw [List.getElem?_map, hx]; rfl)
        have hao : ao = some ⟨g2, off2, none⟩ := by cases e2; rfl
        subst hao
        have htl := text_len (q.bodies.take j) (fun y hy => hbs y (List.mem_of_mem_take hy))
        rw [List.length_take] at htl
        have hl2 : (L1 ++ (q.bodies.take j).flatMap textB).length ≤ 30000 := by rw [List.length_append]; omega
        have hnext : Hid (L1 ++ (q.bodies.take j).flatMap textB ++ textB x = L1 ++ (q.bodies.take (j + 1)).flatMap textB) := hide (by rw [flat_snoc _ hx, List.append_assoc])
        have hx64 := hbs x (List.mem_of_getElem? hx)
        generalize L1 ++ (q.bodies.take j).flatMap textB = L2 at *
        have hpt := putText_any (wT i) _ L2 x wr T2 r2 (by omega) (by omega)
        obtain ⟨v2, v2c, rfl⟩ := row_form r2
        clear kB kS kN kG e2
        go_wp2_with fail
        refine hpt.mono ?_
        clear hpt
        rintro e3 w3 ⟨v3, T3, rfl, s3, r3⟩
        rw [hnext.out] at r3
        have s03 := s2.trans s3
        clear r2 s2 s3 hc2 lg2 hx hnext
        go_wp2
        exact ⟨⟨j + 1, T3, by omega, by simp, s03, r3⟩, by simp [intOf]; omega⟩
      · have ej : j = q.bodies.length := by omega
        subst ej
        rw [List.take_length] at r2
        have htl := text_len q.bodies hbs
        have hl2 : (L1 ++ q.bodies.flatMap textB).length ≤ 30000 := by rw [List.length_append]; omega
        have hsl : (sortG q).length = m.names.length := by unfold sortG; rw [List.length_map, (sortN_perm q.names).length_eq, hqn.out]
        have hn6 : m.names.length ≤ 6 := by simp [MQ.names]; exact hfew
        replace hkey : Hid (snapB q (sortG q) = L1 ++ q.bodies.flatMap textB ++ encN 2 m.names.length ++ (sortG q).flatMap (groupB q)) := hide (by rw [hkey.out, hsl])
        generalize L1 ++ q.bodies.flatMap textB = L2 at *
        have hp3 := putOne_any i _ L2 m.names.length wr T2 r2 (by omega) (by omega)
        rw [Int.toNat_natCast] at hp3
        have hlen2 := kN.len
        have c7 := kB.cell (j := 7) (v := .map (some mb)) rfl
        have lb2 := kB.lt
        obtain ⟨v2, v2c, rfl⟩ := row_form r2
        clear hjl htl
        go_wp2_with fail
        refine hp3.mono ?_
        clear hp3
        rintro e3 w3 ⟨v3, T3, rfl, s3, r3⟩
        have s03 := s2.trans s3
        clear r2 s2 s3 kB kS kN kG c7 lb2 hlen2
        obtain ⟨kB, kS, kN, kG⟩ := keep _ _ s03
        have hl3 : (L2 ++ encN 2 m.names.length).length ≤ 30002 := by rw [List.length_append, encN_length]; omega
        generalize L2 ++ encN 2 m.names.length = L3 at *
        have c7 := kB.cell (j := 7) (v := .map (some mb)) rfl
        have lb3 := kB.lt
        have hkeys := keysL_any (some mb) w3
        have hsort := sortedN_any mb m.names f (.q i 2 0) w3 T3 kN hnd hn6
        obtain ⟨v3', v3c, rfl⟩ := row_form r3
        clear kB kS kN kG
        go_wp2_with fail
        refine hkeys.mono ?_
        clear hkeys
        rintro e4 w4 ⟨rfl, rfl⟩
        go_wp2_with fail
        refine hsort.mono ?_
        clear hsort
        rintro e5 w5 ⟨v5, T5, rfl, s5, r5⟩
        have rd5 := r3.step s5 (fun h => h)
        have s05 := s03.trans (s5.mono (fun _ h => (h.elim : _ = wT i)))
        obtain ⟨so, scap, rfl⟩ := row_form r5
        have hsnl : (sortN m.names).length = m.names.length := (sortN_perm m.names).length_eq
        have hSG : Hid (∀ (j : Nat) (s : ByteArray), (sortN m.names)[j]? = some s → ∃ k g, m.groups[k]? = some g ∧ g.name = s ∧ idx s m.names = some k ∧ (sortG q)[j]? = some (s, coreG m g)) := hide (fun j s hs => by
          have hmem : s ∈ m.names := (sortN_perm m.names).mem_iff.1 (List.mem_of_getElem? hs)
          obtain ⟨g, hg, rfl⟩ := List.mem_map.1 hmem
          obtain ⟨k, hk⟩ := List.getElem?_of_mem hg
          refine ⟨k, g, hk, rfl, ?_, ?_⟩
          · have hnk : m.names[k]? = some g.name := by simp [MQ.names, hk]
            cases hi : idx g.name m.names with
            | none => exact absurd hmem (idx_none.1 hi)
            | some j' =>
              have h2 := idx_some hi
              rw [(List.getElem?_inj (List.getElem?_eq_some_iff.1 h2).1 hnd).1 (h2.trans hnk.symm)]
          · unfold sortG
            rw [hqn.out, List.getElem?_map, hs]
            simp [hfind k g hk])
        clear r3 s03 s5 c7 lb3
        go_wp2_with fail
        go_loopw [3, 47] (fun u3 u47 wr => ∃ (j : Nat) (T' : Nat → Tag), j ≤ m.names.length ∧ u47 = .int .i64 j ∧ Step (fun s => s = wT i) w T wr T' ∧ Row wr T' .free 9 1 (.slice so m.names.length scap) m.names.length ((sortN m.names).map .string) ∧ BRow wr T' (wT i) u3 (L3 ++ ((sortG q).take j).flatMap (groupB q)) ∧ Hid ((((sortG q).take j).flatMap (groupB q)).length ≤ 30000 * j)) (fun _ u47 _ => m.names.length - (intOf u47).toNat)
        case atStart => exact ⟨0, T5, Nat.zero_le _, rfl, s05, r5, by simpa using rd5, hide (by simp)⟩
        case round =>
          obtain ⟨j, T6, hj, rfl, s6, n6, r6, hlb6⟩ := hrel
          clear s05 r5 rd5
          by_cases hjl : j < m.names.length
          · obtain ⟨s, hs⟩ : ∃ s, (sortN m.names)[j]? = some s := ⟨_, List.getElem?_eq_getElem (by omega)⟩
            obtain ⟨k, g, hg, hgn, hik, hsg⟩ := hSG.out j s hs
            obtain ⟨nb, ncap, e⟩ := row_some n6 (by omega)
            cases e
            have y0 := n6.cell (j := j) (u := .string s) (by rw [List.getElem?_map, hs]; rfl)
            have ln := n6.lt
            have gd := step_below (fun _ => False) T6 (Below.refl wr.heap.size wr).drew
            have s6d := s6.trans (gd.mono (fun _ h => (h.elim : _ = wT i)))
            have hgm := List.mem_of_getElem? hg
            obtain ⟨hinv, _⟩ := hrels g hgm
            obtain ⟨kB0, _, _, kG0⟩ := keep _ _ s6
            have hrel := (kG0 k g hg).2
            have hcore : (ps k).core = coreG m g := rel_core hrel hinv.done (by rw [hok.len g hgm]; omega)
            have hgk : GOk m.c q (ps k).core := by
              rw [hcore]
              exact hcok.grp (s, coreG m g) (by
                rw [← hgn]
                have := hfind k g hg
                exact (find_mem hcok.once).1 this)
            have hs16 : s.size ≤ 16 := hshort s (by rw [← hgn]; exact List.mem_map.2 ⟨g, hgm, rfl⟩)
            have hd10 := hcok.d
            have hst4 := hcok.stop
            have hsp : q.stop = q.floor + q.bodies.length := rfl
            have hfl0 := hcok.fl
            have hdl4 : (ps k).dead.length ≤ 400 := by
              have h1 := nodup_ints 400 ((ps k).core.dead.map (·.off)) hgk.once (fun x hx => by
                obtain ⟨y, hy, rfl⟩ := List.mem_map.1 hx
                have h2 := hgk.done y.off (hgk.dead y hy).1
                have h3 := hgk.start
                omega)
              simpa [PG.core] using h1
            have hdd : ∀ x ∈ (ps k).dead, (0 ≤ x.off ∧ x.off < 400) ∧ x.body.size ≤ 64 := fun x hx => by
              have h1 := hgk.dead x hx
              have h2 := hgk.done x.off h1.1
              have h3 := hgk.start
              exact ⟨by omega, h1.2.2.1⟩
            have hgl : (groupB q (s, coreG m g)).length ≤ 30000 := by
              rw [← hcore]
              exact group_len hs16 (by
                have := hgk.start
                show q.stop - max q.floor (ps k).core.start ≤ 400
                omega) hdl4 (fun x hx => (hdd x hx).2)
            have hl6 := hlb6.out
            have hl6b : (L3 ++ ((sortG q).take j).flatMap (groupB q)).length ≤ 300000 := by rw [List.length_append]; omega
            have hnext : Hid (L3 ++ ((sortG q).take j).flatMap (groupB q) ++ textB s ++ (encN 2 (ps k).start.toNat ++ (triesB (ps k).core (q.floor + q.bodies.length - max q.floor (ps k).start).toNat (max q.floor (ps k).start) ++ (encN 2 (ps k).dead.length ++ (ps k).dead.flatMap deadB))) = L3 ++ ((sortG q).take (j + 1)).flatMap (groupB q)) := hide (by
              rw [flat_snoc _ hsg, ← hcore]
              simp only [List.append_assoc]
              rfl)
            have hlb7 : Hid ((((sortG q).take (j + 1)).flatMap (groupB q)).length ≤ 30000 * (j + 1)) := hide (by rw [flat_snoc _ hsg, List.length_append]; omega)
            generalize L3 ++ ((sortG q).take j).flatMap (groupB q) = L6 at *
            have hpt := putText_any (wT i) _ L6 s wr.drew T6 (r6.step gd (fun h => h)) (by omega) (by omega)
            have htl : (textB s).length ≤ 17 := by
              have : s.data.toList.length = s.size := Array.length_toList
              simp only [textB, List.length_cons]
              omega
            have hpg := fun (v8 : Value) (w8 : World) (T8 : Nat → Tag) (hs8 : Step (fun s => s = wT i) w T w8 T8) (h8 : BRow w8 T8 (wT i) v8 (L6 ++ textB s)) =>
              putGroup_any i k b (f k) (ps k) v8 (L6 ++ textB s) q.floor q.bodies.length ao cap _ _ _ _ _ _ _ _ w8 T8 (keep _ _ hs8).1 ((keep _ _ hs8).2.2.2 k g hg).1 h8 hgk.set hfl0 (by omega) hgk.start (fun o => ⟨(hgk.tr o).1, Int.le_trans (hgk.tr o).2 hd10.2⟩) hdl4 hdd (by rw [List.length_append]; omega)
            have hlk := fun (w8 : World) (T8 : Nat → Tag) (hs8 : Step (fun s => s = wT i) w T w8 T8) => (keep _ _ hs8).2.2.1.look hshort s
            rw [hik] at hlk
            simp only [Option.map_some, ptrO, ptrV] at hlk
            have lkd := hlk _ _ s6d
            have c7 := kB0.cell (j := 7) (v := .map (some mb)) rfl
            have lb6 := kB0.lt
            obtain ⟨v6, v6c, rfl⟩ := row_form r6
            clear kB0 kG0 hrel hinv hgk hdd hgl hl6 hsg hs hcore hSG
            go_wp2_with fail
            go_region_held3 (fun w' => w'.cell? ⟨b, 7, none⟩ = some (.map (some mb))) (go_keep) (first
              | (go_at_call 99; refine hpt.mono ?_; clear hpt; rintro e8 w8 ⟨v8, T8, rfl, s8, r8⟩; have s08 := s6d.trans s8; have lk8 := hlk _ _ s08; have k7 := (keep _ _ s08).1.cell (j := 7) (v := .map (some mb)) rfl; have kl := (keep _ _ s08).1.lt)
              | (go_at_call 102; refine (hpg _ _ _ s08 r8).mono ?_; clear hpg; rintro e9 w9 ⟨v9, T9, rfl, s9, r9⟩; have s09 := s08.trans s9; have m7 := (keep _ _ s09).1.cell (j := 7) (v := .map (some mb)) rfl; have ml := (keep _ _ s09).1.lt))
            all_goals
              rw [hnext.out] at r9
              have n9 := ((n6.step gd (fun h => h)).step s8 (by simp)).step s9 (by simp)
              have P9 := hide (And.intro s09 (And.intro n9 (And.intro r9 hlb7)))
              clear s09 n9 r9 hlb7 s8 s9 r8 s08 n6 r6 s6 s6d gd hnext hlb6 hlk lkd lk8
              go_wp2
              exact ⟨⟨j + 1, T9, by omega, by simp, P9.out.1, P9.out.2.1, P9.out.2.2.1, P9.out.2.2.2⟩, by simp [intOf]; omega⟩
          · have ej : j = m.names.length := by omega
            subst ej
            have htk : (sortG q).take m.names.length = sortG q := List.take_of_length_le (by omega)
            rw [htk, ← hkey.out] at r6
            obtain ⟨v6, v6c, rfl⟩ := row_form r6
            clear hlb6
            go_wp2
            go_ret
            exact ⟨_, T6, rfl, s6, r6⟩

end Go.Proofs.YtockkceclkcgbaaGreatDoor

/- Compact: the log is written anew, the queue is as it was. -/
namespace Go.Proofs.YtockkceclkcgbaaGreatDoor
open Go.RowKit Go.Maps

/-- what Compact writes of a queue -/
def snapQ (q : Core) : Bs := snapB q (sortG q)
def compL (c : Conf) (q : Core) : Bs := recB (seedS c) 99 (snapQ q)
def compS (c : Conf) (q : Core) : Nat := recS (seedS c) 99 (snapQ q)

attribute [local go_sem] over_cell

theorem snapQ_len {c : Conf} {q : Core} (h : COk c q) : (snapQ q).length ≤ 400000 := by
  have hbl : (q.bodies.length : Int) ≤ q.stop := by
    have := h.fl
    show (q.bodies.length : Int) ≤ q.floor + q.bodies.length
    omega
  have hst := h.stop
  have h1 := text_len q.bodies h.short
  have hp := sortG_perm h.once
  have hgl : ∀ p ∈ sortG q, (groupB q p).length ≤ 30000 := fun p hp' => by
    have hm := hp.mem_iff.1 hp'
    have hgk := h.grp p hm
    have hn := h.name p.1 (List.mem_map.2 ⟨p, hm, rfl⟩)
    refine group_len hn.2 (by
      have := hgk.start
      have := h.fl
      show q.stop - max q.floor p.2.start ≤ 400
      omega) ?_ (fun x hx => (hgk.dead x hx).2.2.1)
    have h2 := nodup_ints 400 (p.2.dead.map (·.off)) hgk.once (fun x hx => by
      obtain ⟨y, hy, rfl⟩ := List.mem_map.1 hx
      have h2 := hgk.done y.off (hgk.dead y hy).1
      have h3 := hgk.start
      omega)
    simpa using h2
  have hlen : (sortG q).length ≤ 6 := by rw [hp.length_eq]; exact h.few
  have hfl : ∀ l : List (ByteArray × CG), (∀ p ∈ l, (groupB q p).length ≤ 30000) → (l.flatMap (groupB q)).length ≤ 30000 * l.length := by
    intro l
    induction l with
    | nil => simp
    | cons p r ih =>
      intro hh
      have a := hh p (by simp)
      have b := ih (fun x hx => hh x (by simp [hx]))
      simp only [List.flatMap_cons, List.length_append, List.length_cons]
      omega
  have h3 := hfl _ hgl
  unfold snapQ snapB
  simp only [List.length_append, encN_length]
  omega

set_option maxRecDepth 100000 in
set_option maxHeartbeats 2000000 in
theorem xcompact_any (i b : Nat) (m : MQ) (vL vS : Value) (lg : Bs) (w : World) (T : Nat → Tag) (h : XM w T i b m vL vS lg) (hok : m.Ok) (hcok : COk m.c (coreM m)) :
    Calls Tryz.prog 27 #[.pointer (some ⟨b, 0, none⟩)] w fun e w' => e = .returned (.tuple #[]) ∧ ∃ T' vL', Step (XT i) w T w' T' ∧ XM w' T' i b m vL' (.int .u32 (compS m.c (coreM m))) (compL m.c (coreM m)) := by
  have hgood := hok.good
  have hslen := snapQ_len hcok
  obtain ⟨a6, a7, hB, hL, hmk⟩ := h.log
  have c0 := hB.cell (j := 0) (v := .int .i64 m.c.l) rfl
  have c1 := hB.cell (j := 1) (v := .int .i64 m.c.d) rfl
  have c2 := hB.cell (j := 2) (v := .int .i64 m.c.s) rfl
  have c3 := hB.cell (j := 3) (v := .int .i64 m.c.k) rfl
  have lb := hB.lt
  have hnj := newJournal_any i m.c hgood w T
  unfold Conf.cells at hnj
  go_enter Tryz.func27, Tryz.ntmps27
  go_wp2_with fail
  refine hnj.mono ?_
  clear hnj
  rintro e1 w1 ⟨rfl, T1, s1⟩
  have hB1 := hB.step s1 (by simp)
  have c8 := hB1.cell (j := 8) (v := vL) rfl
  have c9 := hB1.cell (j := 9) (v := vS) rfl
  have z8 := hB1.frozen 8
  have z9 := hB1.frozen 9
  have lb1 := hB1.lt
  have hB2 := (hB1.set 8 (.slice none 0 0)).set 9 (.int .u32 (seedS m.c))
  have s2 : Step (fun t => t = .q i 0 0) w1 T1 ((w1.setCell ⟨b, 8, none⟩ (.slice none 0 0)).setCell ⟨b, 9, none⟩ (.int .u32 (seedS m.c))) T1 := (step_setCell w1 T1 b 8 _ (S := fun t => t = .q i 0 0) hB1.1).trans (step_setCell _ T1 b 9 _ (S := fun t => t = .q i 0 0) hB1.1)
  have s02 : Step (LT i) w T ((w1.setCell ⟨b, 8, none⟩ (.slice none 0 0)).setCell ⟨b, 9, none⟩ (.int .u32 (seedS m.c))) T1 := (s1.mono (fun t h => by subst h; simp [LT])).trans (s2.mono (fun t h => by subst h; simp [LT]))
  have hX2 := hmk _ T1 (.slice none 0 0) (.int .u32 (seedS m.c)) [] s02 hB2 (brow_nil _ _ _)
  clear hB hL hmk hB1 hB2 s1 s2 c0 c1 c2 c3 lb h
  go_wp2_with fail
  clear c8 c9 z8 z9 lb1
  generalize (w1.setCell ⟨b, 8, none⟩ (.slice none 0 0)).setCell ⟨b, 9, none⟩ (.int .u32 (seedS m.c : Nat)) = w2 at *
  have gd := step_below (fun _ => False) T1 (Below.refl w2.heap.size w2).drew
  have hX3 := hX2.stepW (gd.mono (fun _ h => h.elim))
  have hsn := snapshot_any i b m _ _ _ w2.drew T1 hX3 hok hcok
  have hadd : ∀ (w4 : World) (T4 : Nat → Tag), XM w4 T4 i b m (.slice none 0 0) (.int .u32 (seedS m.c)) [] → Calls Tryz.prog 42 #[.pointer (some ⟨b, 8, none⟩), .int .u8 99, .string (mkB (snapB (coreM m) (sortG (coreM m))))] w4 fun e w' => e = .returned (.tuple #[]) ∧ ∃ T' vL', Step (LT i) w4 T4 w' T' ∧ XM w' T' i b m vL' (.int .u32 (compS m.c (coreM m))) (compL m.c (coreM m)) := fun w4 T4 hx4 => by
    obtain ⟨a6, a7, hB4, hL4, hmk4⟩ := hx4.log
    have ha := add_any i b _ _ _ _ _ _ _ _ _ (seedS m.c) [] 99 (mkB (snapB (coreM m) (sortG (coreM m)))) w4 T4 hB4 hL4 (crcF_lt _ _) (by rw [mkB_size]; unfold snapQ at hslen; simp; omega)
    rw [mkB_list] at ha
    refine ha.mono ?_
    rintro e w' ⟨rfl, T', vL', s', hB', hL'⟩
    exact ⟨rfl, T', vL', s', hmk4 w' T' vL' _ _ s' hB' (by simpa [compL, snapQ] using hL')⟩
  generalize snapB (coreM m) (sortG (coreM m)) = sb at *
  go_region_law (first
    | (go_simp; go_at_call 65; refine hsn.mono ?_; clear hsn; rintro e4 w4 ⟨v4, T4, rfl, s4, r4⟩; have hconv := run_bytes_text r4; have hX4 := hX3.stepW s4; have hlb4 : b < w4.heap.size := (by obtain ⟨_, _, _, _, _, _, _, _, _, hB4, _⟩ := hX4; exact hB4.lt))
    | (go_simp; go_at_call 42; refine (hadd _ _ hX4).mono ?_; clear hadd; rintro e5 w5 ⟨rfl, T5, vL5, s5, hX5⟩)
    | go_simp)
  all_goals
    have s05 : Step (XT i) w T w5 T5 := ((s02.mono (fun t h => by rcases h with rfl | rfl | rfl <;> exact ⟨rfl, rfl⟩)).trans (gd.mono (fun _ h => h.elim))).trans ((s4.mono (fun t h => by subst h; exact ⟨rfl, rfl⟩)).trans (s5.mono (fun t h => by rcases h with rfl | rfl | rfl <;> exact ⟨rfl, rfl⟩)))
    clear s02 gd s4 s5 hX2 hX3 hX4 r4
    go_wp2
    go_end0
    exact ⟨rfl, T5, vL5, s05, hX5⟩

end Go.Proofs.YtockkceclkcgbaaGreatDoor

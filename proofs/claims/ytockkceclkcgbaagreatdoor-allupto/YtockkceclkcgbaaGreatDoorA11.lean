/- The contract of the document's Receive. -/
import Derived.Test.YtockkceclkcgbaaGreatDoorA06
namespace Go.Proofs.YtockkceclkcgbaaGreatDoor
open Go.RowKit

abbrev Tag.scr : Tag := ⟨8, 0, 0, 0⟩

theorem freshTo_step {l : List It} {k : Nat} {x : It} (hx : l[k]? = some x) : freshTo l (k + 1) = bif decide (x.tries = 0) then freshTo l k ++ [k] else freshTo l k := by rw [freshTo, hx]
theorem freshTo_lt (l : List It) : ∀ k, ∀ n ∈ freshTo l k, n < k ∧ n < l.length
  | 0, n, h => by cases h
  | k + 1, n, h => by
    rw [freshTo] at h
    cases hx : l[k]? with
    | none => rw [hx] at h; have := freshTo_lt l k n h; omega
    | some x =>
      rw [hx] at h
      have hk := (List.getElem?_eq_some_iff.1 hx).1
      simp only at h
      cases hd : decide (x.tries = 0)
      · rw [hd] at h; have := freshTo_lt l k n h; omega
      · rw [hd] at h
        simp at h
        rcases h with h | h
        · have := freshTo_lt l k n h; omega
        · omega
theorem freshTo_len (l : List It) : ∀ k, (freshTo l k).length ≤ k
  | 0 => Nat.le_refl _
  | k + 1 => by
    have ih := freshTo_len l k
    rw [freshTo]
    cases l[k]? with
    | none => simp; omega
    | some x => simp only; cases decide (x.tries = 0) <;> simp <;> omega

theorem info3r : (Tryz.prog.info? 3).map (fun i => (i.zero, i.size, i.bytes)) = some (some (.int .i64 0), 1, 8) := by kernel_rfl

/-- the blocks that a Receive may write -/
def RecvS (i : Nat) (t s : Tag) : Prop := (∃ r j, s = .y i r j) ∨ s = t ∨ s = .scr

attribute [local go_sem] over_cell

theorem setG_len {m : MQ} {k : Nat} {st : RS} : (m.setG k st).groups.length = m.groups.length := by simp [MQ.setG]

theorem setG_setI {m : MQ} {k q : Nat} {st : RS} {y : It} {g : MG} (hg : m.groups[k]? = some g) : (m.setG k st).setI k q y = m.setG k { st with items := st.items.set q y } := by
  unfold MQ.setG MQ.setI
  simp only
  congr 1
  apply List.ext_getElem?
  intro j
  simp only [List.getElem?_modify]
  by_cases h : k = j
  · subst h
    simp [hg]
  · cases m.groups[j]? <;> simp [h]
theorem setG_setG {m : MQ} {k : Nat} {s1 s2 : RS} : (m.setG k s1).setG k s2 = m.setG k s2 := by
  unfold MQ.setG
  simp only
  congr 1
  apply List.ext_getElem?
  intro j
  simp only [List.getElem?_modify]
  by_cases h : k = j
  · subst h
    cases m.groups[k]? <;> simp
  · cases m.groups[j]? <;> simp [h]
theorem info71r : (Tryz.prog.info? 82).map (fun i => (i.zero, i.size, i.bytes)) = some (some (.agg #[.int .i64 0, .int .i64 0, .string ⟨#[]⟩]), 3, 32) := by kernel_rfl


/-- Receive's second loop, ahead of round k. -/
structure RI (w : World) (T : Nat → Tag) (wx : World) (T2 : Nat → Tag) (i : Nat) (t : Tag) (b : Nat) (m : MQ) (k0 : Nat) (g : MG) (gb gc : Nat) (fo : Option Addr) (fc : Nat) (fr : List Nat) (ao : Option Addr) (cap : Nat) (n : Int) (k : Nat) (st : RS) : Prop where
  step : Step (RecvS i t) w T wx T2
  yq : YQ wx T2 i b (m.setG k0 st).rq
  c6 : wx.cell? ⟨b, 6, none⟩ = some (.slice (some ⟨gb, 0, none⟩) (m.setG k0 st).groups.length gc)
  out : Row wx T2 t 82 3 (.slice ao st.out.length cap) st.out.length (dlVals st.out)
  fresh : Row wx T2 .scr 3 1 (.slice fo fr.length fc) fr.length (fr.map natV)
  il : st.items.length = m.bodies.length
  dl : st.dead.length ≤ 4000 + k
  dd : ∀ d ∈ st.dead, d < m.bodies.length
  run : recvAll m g n = recvRun m g.start fr n (m.bodies.length + fr.length - k) k st

theorem RI.below {w wx w' : World} {T T2 : Nat → Tag} {i : Nat} {t : Tag} {b : Nat} {m : MQ} {k0 : Nat} {g : MG} {gb gc : Nat} {fo : Option Addr} {fc : Nat} {fr : List Nat} {ao : Option Addr} {cap : Nat} {n : Int} {k : Nat} {st : RS}
    (h : RI w T wx T2 i t b m k0 g gb gc fo fc fr ao cap n k st) (hg : m.groups[k0]? = some g) (hb : Below wx.heap.size wx w') : RI w T w' T2 i t b m k0 g gb gc fo fc fr ao cap n k st := by
  have hs := step_below (fun _ => False) T2 hb
  obtain ⟨_, _, _, _, _, _, L⟩ := h.yq.look (setG_at hg) h.c6
  exact ⟨h.step.trans (step_below _ T2 hb), h.yq.step hs (fun _ _ h => h), (hb.cell (p := ⟨b, 6, none⟩) L.lb).trans h.c6, h.out.step hs (fun h => h), h.fresh.step hs (fun h => h), h.il, h.dl, h.dd, h.run⟩
theorem recvRun_on {m : MQ} {start : Int} {fr : List Nat} {n : Int} {k : Nat} {st : RS} (hk : k < m.bodies.length + fr.length) (hn : (st.out.length : Int) < n) :
    recvRun m start fr n (m.bodies.length + fr.length - k) k st = recvRun m start fr n (m.bodies.length + fr.length - (k + 1)) (k + 1) (recvStep m start fr st k) := by
  rw [show m.bodies.length + fr.length - k = (m.bodies.length + fr.length - (k + 1)) + 1 by omega, recvRun]
  have h : ¬ n ≤ (st.out.length : Int) := by omega
  simp [h]
theorem recvRun_full {m : MQ} {start : Int} {fr : List Nat} {n : Int} {k : Nat} {st : RS} (hn : n ≤ (st.out.length : Int)) (f : Nat) : recvRun m start fr n f k st = st := by
  cases f with
  | zero => rfl
  | succ f => simp [recvRun, hn]

set_option maxRecDepth 100000 in
set_option maxHeartbeats 20000000 in
theorem yreceive_any (i b : Nat) (m : MQ) (s : ByteArray) (n : Int) (t : Tag) (w : World) (T : Nat → Tag) (hy : YQ w T i b m.rq) (hok : m.Ok) (hdl : ∀ g ∈ m.groups, g.dead.length ≤ 4000) (ht : t.c ≠ 6 ∧ t.c ≠ 8) :
    Calls Tryz.prog 109 #[.pointer (some ⟨b, 0, none⟩), .string s, .int .i64 n] w fun e w' => ∃ ao cap, e = .returned (.tuple #[.slice ao (recvL m s n).length cap, .int .i64 (recvE m s n)]) ∧ ∃ T',
      Step (RecvS i t) w T w' T' ∧ YQ w' T' i b (recvM m s n).rq ∧ Row w' T' t 82 3 (.slice ao (recvL m s n).length cap) (recvL m s n).length (dlVals (recvL m s n)) := by
  go_enter Tryz.func109, Tryz.ntmps109
  go_wp2_with fail
  refine (yat_any i b m.rq s w T hy).mono ?_
  rintro e w1 ⟨rfl, rfl⟩
  cases ha : m.at s with
  | none =>
    rw [place_none ha]
    have e1 : Hid (recvL m s n = []) := hide (by simp [recvL, ha])
    have e2 : Hid (recvE m s n = 10) := hide (by simp [recvE, ha])
    have e3 : Hid (recvM m s n = m) := hide (by simp [recvM, ha])
    go_wp2
    go_ret2
    rw [e1.out, e2.out, e3.out]
    exact ⟨none, 0, rfl, T, Step.refl _ _ _, hy, row_nil _ _ _ _ _⟩
  | some k0 =>
    rw [place_some ha]
    obtain ⟨g, hg, hgn⟩ := at_group ha
    clear hgn
    cases hbt : btw n 1 32
    · have e1 : Hid (recvL m s n = []) := hide (by simp [recvL, ha, hg, hbt])
      have e2 : Hid (recvE m s n = 11) := hide (by simp [recvE, ha, hbt])
      have e3 : Hid (recvM m s n = m) := hide (by simp [recvM, ha, hg, hbt])
      have hn0 := btw_false hbt
      by_cases h1 : n < 1
      · go_wp2
        go_ret2
        rw [e1.out, e2.out, e3.out]
        exact ⟨none, 0, rfl, T, Step.refl _ _ _, hy, row_nil _ _ _ _ _⟩
      · have h2 : 32 < n := by omega
        go_wp2
        go_ret2
        rw [e1.out, e2.out, e3.out]
        exact ⟨none, 0, rfl, T, Step.refl _ _ _, hy, row_nil _ _ _ _ _⟩
    have hn := btw_true hbt
    have e1 : Hid (recvL m s n = (recvAll m g n).out) := hide (by simp [recvL, ha, hg, hbt])
    have e2 : Hid (recvE m s n = 0) := hide (by simp [recvE, ha, hbt])
    have e3 : Hid (recvM m s n = m.setG k0 (recvAll m g n)) := hide (by simp [recvM, ha, hg, hbt])
    clear hbt ha
    have hlen : Hid (g.items.length = m.bodies.length) := hide (hok.len g (List.mem_of_getElem? hg))
    have hd4 := hdl g (List.mem_of_getElem? hg)
    have hdd := hok.dead g (List.mem_of_getElem? hg)
    have hn1 : ¬ n < 1 := by omega
    have hn2 : ¬ 32 < n := by omega
    -- the cell that leads to the groups
    obtain ⟨gb, gc, c6⟩ : ∃ gb gc, w1.cell? ⟨b, 6, none⟩ = some (.slice (some ⟨gb, 0, none⟩) m.groups.length gc) := by
      obtain ⟨_, _, _, vB, vG, vi, vd, hB, hR, hG, hI⟩ := hy
      have hkl : k0 < m.groups.length := (List.getElem?_eq_some_iff.1 hg).1
      have hgl : m.rq.groups.length = m.groups.length := by simp [MQ.rq]
      rw [hgl] at hG
      obtain ⟨gb', gc', rfl⟩ := row_some hG (by omega)
      exact ⟨gb', gc', hB.cell (j := 6) rfl⟩
    obtain ⟨i0, hi, hz0, hz1, hz2⟩ := info_parts info3r
    have hk6 : k0 < m.groups.length ∧ m.groups.length ≤ 6 := by
      obtain ⟨_, _, _, _, _, _, L⟩ := hy.look hg c6
      exact L.k6
    have hN : m.bodies.length ≤ 400 := by
      obtain ⟨_, _, _, _, _, _, L⟩ := hy.look hg c6
      exact L.n400
    go_wp2_with fail
    -- what is new
    go_loopw [11, 12] (fun u11 u12 wr => ∃ (k : Nat) (fo : Option Addr) (fc : Nat) (T1 : Nat → Tag), k ≤ m.bodies.length ∧ u12 = .int .i64 k ∧ u11 = .slice fo (freshTo g.items k).length fc ∧ Step (fun s => s = .scr) w1 T wr T1 ∧ Row wr T1 .scr 3 1 (.slice fo (freshTo g.items k).length fc) (freshTo g.items k).length ((freshTo g.items k).map natV)) (fun _ u12 _ => m.bodies.length - (intOf u12).toNat)
    case atStart => exact ⟨0, none, 0, T, Nat.zero_le _, rfl, rfl, Step.refl _ _ _, row_nil _ _ _ _ _⟩
    case round =>
      obtain ⟨k, fo, fc, T1, hk, rfl, rfl, hs1, hF⟩ := hrel
      have hyr := hy.step hs1 (by simp)
      have c6r : wr.cell? ⟨b, 6, none⟩ = some (.slice (some ⟨gb, 0, none⟩) m.groups.length gc) := by
        obtain ⟨_, _, _, _, _, _, L⟩ := hy.look hg c6
        rw [hs1.cell (p := ⟨b, 6, none⟩) L.lb (by rw [L.tb]; simp)]
        exact c6
      obtain ⟨io, ic, dO, dc, bo, bc, L⟩ := hyr.look hg c6r
      have d2 := L.d2
      have hfl := freshTo_len g.items k
      by_cases hlt : k < m.bodies.length
      · obtain ⟨x, hx⟩ : ∃ x, g.items[k]? = some x := ⟨_, List.getElem?_eq_getElem (by rw [hlen.out]; exact hlt)⟩
        have hit := L.items
        obtain ⟨gi, ic', e⟩ := row_some hit (by omega)
        cases e
        have tx := hit.cell (itVals_at g.items k x hx).1
        have hst := freshTo_step hx
        clear L hit hyr
        by_cases h0 : x.tries = 0
        · have eL : Hid (freshTo g.items (k + 1) = freshTo g.items k ++ [k]) := hide (by rw [hst]; simp [h0])
          rw [h0] at tx
          have hal := step_alloc wr T1 (.cells #[.int .i64 (k : Int)] 3) (fun _ => False)
          have hFa := hF.step hal (fun h => h)
          clear hst
          go_wp2_with (first
            | (at_builtin; refine wpList_append_row rfl _ _ 50 rfl 3 i0 (.int .i64 0) 1 8 Tryz.underlying50 hi hz0 hz1 hz2 rfl (by decide) _ _ _ rfl hFa ⟨wr.heap.size, 0, none⟩ 1 1 [.int .i64 (k : Int)] rfl rfl (cell_one_new _ _ _) (by simp [Value.oneCell']) (by decide) (by unfold maxLen; omega) (by omega) ?_; intro fg fcap w2 T2 hF2 hs2)
            | go_in)
          refine ⟨⟨k + 1, some ⟨fg, 0, none⟩, fcap, T2, by omega, by simp, ?_, ?_, ?_⟩, by simp [intOf]; omega⟩
          · rw [eL.out]; simp
          · exact hs1.trans ((step_alloc _ _ _ _).trans hs2)
          · rw [eL.out]
            simpa [natV] using hF2
        · have eL : Hid (freshTo g.items (k + 1) = freshTo g.items k) := hide (by rw [hst]; simp [h0])
          clear hst
          go_wp2
          refine ⟨⟨k + 1, fo, fc, T1, by omega, by simp, ?_, hs1, ?_⟩, by simp [intOf]; omega⟩
          · rw [eL.out]
          · rw [eL.out]; exact hF
      · have hk2 : k = m.bodies.length := by omega
        subst hk2
        have hR0 : RI w1 T wr T1 i t b m k0 g gb gc fo fc (freshTo g.items m.bodies.length) none 0 n 0 ⟨g.items, g.dead, m.changes, []⟩ :=
          ⟨hs1.mono (fun _ h => .inr (.inr h)), by rw [setG_self hg]; exact hyr, by rw [setG_len]; exact c6r, row_nil _ _ _ _ _, hF, hlen.out, by simp; omega, hdd, by rw [recvAll, hlen.out]; rfl⟩
        have hfrl := freshTo_lt g.items m.bodies.length
        clear L hyr hF hs1 hy c6
        generalize freshTo g.items m.bodies.length = fr at *
        go_wp2_with fail
        go_loopw [10, 13] (fun u10 u13 wx => ∃ (k : Nat) (st : RS) (T2 : Nat → Tag) (ao : Option Addr) (cap : Nat), k ≤ m.bodies.length + fr.length ∧ u13 = .int .i64 k ∧ u10 = .slice ao st.out.length cap ∧ RI w1 T wx T2 i t b m k0 g gb gc fo fc fr ao cap n k st) (fun _ u13 _ => m.bodies.length + fr.length - (intOf u13).toNat)
        case atStart => exact ⟨0, _, T1, none, 0, Nat.zero_le _, rfl, rfl, hR0⟩
        case round =>
          clear hR0
          obtain ⟨k, st, T2, ao, cap, hkle, rfl, rfl, R⟩ := hrel
          obtain ⟨io, ic, dO, dc, bo, bc, L⟩ := R.yq.look (setG_at hg) R.c6
          have d2x : wr.cell? ⟨gb, k0 * 4 + 2, none⟩ = some (.slice io m.bodies.length ic) := L.d2
          by_cases hkF : k < m.bodies.length + fr.length
          · by_cases hon : (st.out.length : Int) < n
            · clear d2 c6r
              go_upto_if 80 with (fail)
              have hrun : Hid (recvAll m g n = recvRun m g.start fr n (m.bodies.length + fr.length - (k + 1)) (k + 1) (recvStep m g.start fr st k)) := hide (R.run.trans (recvRun_on hkF hon))
              go_cut [14] from 55 to 214 (fun v w' => w' = wr ∧ ∃ (q : Nat) (x : It), v = .int .i64 q ∧ q < m.bodies.length ∧ st.items[q]? = some x ∧ Hid (recvStep m g.start fr st k = recvOne m g.start st q x))
              case first =>
                have hit : Row wr T2 (.y i 3 k0) 111 4 (.slice io m.bodies.length ic) m.bodies.length (itVals st.items) := L.items
                by_cases hkN : k < m.bodies.length
                · obtain ⟨x, hx⟩ : ∃ x, st.items[k]? = some x := ⟨_, List.getElem?_eq_getElem (by rw [R.il]; exact hkN)⟩
                  obtain ⟨gi, ic', e⟩ := row_some hit (by omega)
                  cases e
                  have tx := hit.cell (itVals_at st.items k x hx).1
                  by_cases h0 : x.tries = 0
                  · have hsk : Hid (recvStep m g.start fr st k = st) := hide (by simp [recvStep, hkN, hx, h0])
                    rw [h0] at tx
                    have hR2 : RI w1 T wr T2 i t b m k0 g gb gc fo fc fr ao cap n (k + 1) st := ⟨R.step, R.yq, R.c6, R.out, R.fresh, R.il, by have := R.dl; omega, R.dd, by rw [hrun.out, hsk.out]⟩
                    clear L hit R
                    go_wp2
                    exact ⟨⟨k + 1, st, T2, ao, cap, by omega, by simp, rfl, hR2⟩, by simp [intOf]; omega⟩
                  · have hsk : Hid (recvStep m g.start fr st k = recvOne m g.start st k x) := hide (by simp [recvStep, hkN, hx, h0])
                    clear L hit
                    go_wp2_with fail
                    go_meet
                    exact ⟨rfl, k, x, rfl, hkN, hx, hsk⟩
                · obtain ⟨q, hq⟩ : ∃ q, fr[k - m.bodies.length]? = some q := ⟨_, List.getElem?_eq_getElem (by omega)⟩
                  have hqN : q < m.bodies.length := by rw [← hlen.out]; exact (hfrl q (List.mem_of_getElem? hq)).2
                  obtain ⟨x, hx⟩ : ∃ x, st.items[q]? = some x := ⟨_, List.getElem?_eq_getElem (by rw [R.il]; exact hqN)⟩
                  have hsk : Hid (recvStep m g.start fr st k = recvOne m g.start st q x) := hide (by simp [recvStep, hkN, hq, hx])
                  obtain ⟨j, rfl⟩ : ∃ j, k = m.bodies.length + j := ⟨k - m.bodies.length, by omega⟩
                  rw [Nat.add_sub_cancel_left] at hq
                  have hfr := R.fresh
                  obtain ⟨gf, fc', e⟩ := row_some hfr (by omega)
                  cases e
                  have tf := hfr.cell (show (fr.map natV)[j]? = some (.int .i64 q) by simp [hq, natV])
                  have hjl : j < fr.length := by omega
                  have hwr : wrap64 ((m.bodies.length : Int) + (j : Int) - (m.bodies.length : Int)) = j := by unfold wrap64; omega
                  clear L hit
                  go_wp2_with fail
                  go_meet
                  exact ⟨rfl, q, x, rfl, hqN, hx, hsk⟩
              case rest =>
                obtain ⟨rfl, q, x, rfl, hqN, hx, hsk⟩ := hcut
                have hit : Row wc T2 (.y i 3 k0) 111 4 (.slice io m.bodies.length ic) m.bodies.length (itVals st.items) := L.items
                obtain ⟨gi, ic', e⟩ := row_some hit (by omega)
                cases e
                have li := hit.lt
                obtain ⟨t0, t1, t2, t3⟩ := itVals_at st.items q x hx
                replace t0 := hit.cell t0
                replace t1 := hit.cell t1
                replace t2 := hit.cell t2
                replace t3 := hit.cell t3
                have c5 : wc.cell? ⟨b, 5, none⟩ = some (.int .i64 m.floor) := L.c5
                have c7 : wc.cell? ⟨b, 7, none⟩ = some (.int .i64 m.time) := L.c7
                have d1 : wc.cell? ⟨gb, k0 * 4 + 1, none⟩ = some (.int .i64 g.start) := L.d1
                have lb := L.lb
                have lg := L.lg
                by_cases p1 : (q : Int) < m.floor
                · as_aux_lemma =>
                    have hst : Hid (recvStep m g.start fr st k = st) := hide (by rw [hsk.out]; simp [recvOne, passed, p1])
                    have hR2 : RI w1 T wc T2 i t b m k0 g gb gc fo fc fr ao cap n (k + 1) st := ⟨R.step, R.yq, R.c6, R.out, R.fresh, R.il, by have := R.dl; omega, R.dd, by rw [hrun.out, hst.out]⟩
                    clear L hit R
                    go_wp2_with fail
                    refine wp_region_over (by kernel_rfl) (by kernel_rfl) ?_
                    repeat (go_big_quiet_step (fail))
                    refine wpQuiet_nil ?_
                    rintro _ ⟨x5, rfl⟩
                    replace hR2 := hR2.below hg (over_below wc x5)
                    generalize over wc x5 = w5 at *
                    go_wp2
                    exact ⟨⟨k + 1, st, T2, ao, cap, by omega, by simp, rfl, hR2⟩, by simp [intOf]; omega⟩
                have p1' : decide ((q : Int) < m.floor) = false := by simp; omega
                by_cases p2 : (q : Int) < g.start
                · as_aux_lemma =>
                    have hst : Hid (recvStep m g.start fr st k = st) := hide (by rw [hsk.out]; simp [recvOne, passed, p1, p2])
                    have hR2 : RI w1 T wc T2 i t b m k0 g gb gc fo fc fr ao cap n (k + 1) st := ⟨R.step, R.yq, R.c6, R.out, R.fresh, R.il, by have := R.dl; omega, R.dd, by rw [hrun.out, hst.out]⟩
                    clear L hit R
                    go_wp2_with fail
                    refine wp_region_over (by kernel_rfl) (by kernel_rfl) ?_
                    repeat (go_big_quiet_step (fail))
                    refine wpQuiet_nil ?_
                    rintro _ ⟨x5, rfl⟩
                    replace hR2 := hR2.below hg (over_below wc x5)
                    generalize over wc x5 = w5 at *
                    go_wp2
                    exact ⟨⟨k + 1, st, T2, ao, cap, by omega, by simp, rfl, hR2⟩, by simp [intOf]; omega⟩
                have p2' : decide ((q : Int) < g.start) = false := by simp; omega
                by_cases p3 : 0 < x.done
                · as_aux_lemma =>
                    have hst : Hid (recvStep m g.start fr st k = st) := hide (by rw [hsk.out]; simp [recvOne, passed, p1, p2, p3])
                    have hR2 : RI w1 T wc T2 i t b m k0 g gb gc fo fc fr ao cap n (k + 1) st := ⟨R.step, R.yq, R.c6, R.out, R.fresh, R.il, by have := R.dl; omega, R.dd, by rw [hrun.out, hst.out]⟩
                    clear L hit R
                    go_wp2_with fail
                    refine wp_region_over (by kernel_rfl) (by kernel_rfl) ?_
                    repeat (go_big_quiet_step (fail))
                    refine wpQuiet_nil ?_
                    rintro _ ⟨x5, rfl⟩
                    replace hR2 := hR2.below hg (over_below wc x5)
                    generalize over wc x5 = w5 at *
                    go_wp2
                    exact ⟨⟨k + 1, st, T2, ao, cap, by omega, by simp, rfl, hR2⟩, by simp [intOf]; omega⟩
                have p3' : decide (0 < x.done) = false := by simp; omega
                by_cases p4 : m.time < x.till
                · as_aux_lemma =>
                    have hst : Hid (recvStep m g.start fr st k = st) := hide (by rw [hsk.out]; simp [recvOne, passed, p1, p2, p3, p4])
                    have hR2 : RI w1 T wc T2 i t b m k0 g gb gc fo fc fr ao cap n (k + 1) st := ⟨R.step, R.yq, R.c6, R.out, R.fresh, R.il, by have := R.dl; omega, R.dd, by rw [hrun.out, hst.out]⟩
                    clear L hit R
                    go_wp2_with fail
                    refine wp_region_over (by kernel_rfl) (by kernel_rfl) ?_
                    repeat (go_big_quiet_step (fail))
                    refine wpQuiet_nil ?_
                    rintro _ ⟨x5, rfl⟩
                    replace hR2 := hR2.below hg (over_below wc x5)
                    generalize over wc x5 = w5 at *
                    go_wp2
                    exact ⟨⟨k + 1, st, T2, ao, cap, by omega, by simp, rfl, hR2⟩, by simp [intOf]; omega⟩
                have p4' : decide (m.time < x.till) = false := by simp; omega
                by_cases p5 : m.time < x.after
                · as_aux_lemma =>
                    have hst : Hid (recvStep m g.start fr st k = st) := hide (by rw [hsk.out]; simp [recvOne, passed, p1, p2, p3, p4, p5])
                    have hR2 : RI w1 T wc T2 i t b m k0 g gb gc fo fc fr ao cap n (k + 1) st := ⟨R.step, R.yq, R.c6, R.out, R.fresh, R.il, by have := R.dl; omega, R.dd, by rw [hrun.out, hst.out]⟩
                    clear L hit R
                    go_wp2_with fail
                    refine wp_region_over (by kernel_rfl) (by kernel_rfl) ?_
                    repeat (go_big_quiet_step (fail))
                    refine wpQuiet_nil ?_
                    rintro _ ⟨x5, rfl⟩
                    replace hR2 := hR2.below hg (over_below wc x5)
                    generalize over wc x5 = w5 at *
                    go_wp2
                    exact ⟨⟨k + 1, st, T2, ao, cap, by omega, by simp, rfl, hR2⟩, by simp [intOf]; omega⟩
                have p5' : decide (m.time < x.after) = false := by simp; omega
                have hps : passed m g.start q x = false := by simp only [passed, p1', p2', p3', p4', p5', Bool.or_false]
                have c8 : wc.cell? ⟨b, 8, none⟩ = some (.int .i64 st.ch) := L.c8
                have c1 : wc.cell? ⟨b, 1, none⟩ = some (.int .i64 m.c.d) := L.c1
                have f8 := L.fb 8
                have ne1 : gi ≠ b := fun e => by have h1 := hit.2 gi rfl; rw [e, L.tb] at h1; simp at h1
                have ne2 : gi ≠ gb := fun e => by have h1 := hit.2 gi rfl; rw [e, L.tg] at h1; simp at h1
                have ne3 : gb ≠ b := fun e => by have h1 := L.tg; rw [e, L.tb] at h1; simp at h1
                have R0 := R
                clear L hit R
                go_wp2_with fail
                refine wp_region_over (by kernel_rfl) (by kernel_rfl) ?_
                repeat (go_big_quiet_step (fail))
                refine wpQuiet_nil ?_
                rintro _ ⟨x5, rfl⟩
                have hb5 := over_below wc x5
                replace R0 := R0.below hg hb5
                replace t0 := (hb5.cell (p := ⟨gi, q * 4, none⟩) li).trans t0
                replace c8 := (hb5.cell (p := ⟨b, 8, none⟩) lb).trans c8
                replace c1 := (hb5.cell (p := ⟨b, 1, none⟩) lb).trans c1
                replace f8 := (hb5.frozen (p := ⟨b, 8, none⟩) lb).trans f8
                replace d2x := (hb5.cell (p := ⟨gb, k0 * 4 + 2, none⟩) lg).trans d2x
                replace li := Nat.lt_of_lt_of_le li hb5.size
                replace lb := Nat.lt_of_lt_of_le lb hb5.size
                replace lg := Nat.lt_of_lt_of_le lg hb5.size
                generalize over wc x5 = w5 at *
                clear hb5 t1 t2 t3 c5 c7 d1
                have lb8 : b < (w5.setCell ⟨b, 8, none⟩ (.int .i64 (wrap64 (st.ch + 1)))).heap.size := by simpa using lb
                have li8 : gi < (w5.setCell ⟨b, 8, none⟩ (.int .i64 (wrap64 (st.ch + 1)))).heap.size := by simpa using li
                go_wp2_with fail
                refine wp_region_over (by kernel_rfl) (by kernel_rfl) ?_
                repeat (go_big_quiet_step (fail))
                refine wpQuiet_nil ?_
                rintro _ ⟨x6, rfl⟩
                obtain ⟨hy6, hs6⟩ := R0.yq.setChanges (wrap64 (st.ch + 1))
                have hb6 := over_below (w5.setCell ⟨b, 8, none⟩ (.int .i64 (wrap64 (st.ch + 1)))) x6
                have hk6' : Step (RecvS i t) w1 T (over (w5.setCell ⟨b, 8, none⟩ (.int .i64 (wrap64 (st.ch + 1)))) x6) T2 := (R0.step.trans (hs6.mono (fun _ h => .inl h))).trans (step_below _ T2 hb6)
                replace hy6 := hy6.step (step_below (fun _ => False) T2 hb6) (fun _ _ h => h)
                have hsy : Step (fun s => ∃ r j, s = .y i r j) w5 T2 (over (w5.setCell ⟨b, 8, none⟩ (.int .i64 (wrap64 (st.ch + 1)))) x6) T2 := hs6.trans (step_below _ T2 hb6)
                have hout6 := R0.out.step hsy (by rintro ⟨r, j, e⟩; exact ht.1 (by rw [e]))
                have hfr6 := R0.fresh.step hsy (by rintro ⟨r, j, e⟩; cases e)
                have c66 := (hb6.cell (p := ⟨b, 6, none⟩) lb8).trans ((World.cell?_setCell_other (w := w5) (a := ⟨b, 8, none⟩) (b := ⟨b, 6, none⟩) (v := .int .i64 (wrap64 (st.ch + 1))) (by simp)).trans R0.c6)
                have d26 := (hb6.cell (p := ⟨gb, k0 * 4 + 2, none⟩) (by simpa using lg)).trans ((World.cell?_of_block (Below.heap_setCell w5 ⟨b, 8, none⟩ (.int .i64 (wrap64 (st.ch + 1))) gb ne3)).trans d2x)
                generalize over (w5.setCell ⟨b, 8, none⟩ (.int .i64 (wrap64 (st.ch + 1)))) x6 = w6 at *
                have hy6' : YQ w6 T2 i b (m.setG k0 ⟨st.items, st.dead, wrap64 (st.ch + 1), st.out⟩).rq := hy6
                have hil := R0.il
                have hdl0 := R0.dl
                have hdd0 := R0.dd
                clear hb6 t0 c8 c1 f8 lb lg li lb8 li8 hs6 R0 hy6 hsy
                obtain ⟨io6, ic6, dO6, dc6, bo6, bc6, L⟩ := hy6'.look (setG_at hg) c66
                have hok6 : (m.setG k0 ⟨st.items, st.dead, wrap64 (st.ch + 1), st.out⟩).Ok := setG_ok hok hil hdd0
                have hio := (L.d2).symm.trans d26
                simp only [Option.some.injEq, Value.slice.injEq] at hio
                obtain ⟨h1, _, h2⟩ := hio
                subst h1
                subst h2
                clear d2x
                have hit : Row w6 T2 (.y i 3 k0) 111 4 (.slice (some ⟨gi, 0, none⟩) m.bodies.length ic6) m.bodies.length (itVals st.items) := L.items
                have d26' : w6.cell? ⟨gb, k0 * 4 + 2, none⟩ = some (.slice (some ⟨gi, 0, none⟩) (m.setG k0 ⟨st.items, st.dead, wrap64 (st.ch + 1), st.out⟩).bodies.length ic6) := L.d2
                obtain ⟨t0, t1, t2, t3⟩ := itVals_at st.items q x hx
                replace t0 := hit.cell t0
                replace t1 := hit.cell t1
                replace t2 := hit.cell t2
                by_cases hdead : m.c.d ≤ x.tries
                · have hst : Hid (recvStep m g.start fr st k = ⟨st.items.set q { x with done := 2 }, st.dead ++ [q], wrap64 (st.ch + 1), st.out⟩) := hide (by rw [hsk.out]; simp [recvOne, hps, hdead])
                  obtain ⟨hy7, hs7⟩ := hy6'.itemAt hok6 (setG_at hg) hx c66 d26' 1 (.int .i64 2) { x with done := 2 } (by decide) ((itVals_set st.items q x hx).2.1 2)
                  rw [setG_setI hg] at hy7
                  have z1 := hit.frozen (q * 4 + 1)
                  have c67 : (w6.setCell ⟨gi, q * 4 + 1, none⟩ (.int .i64 2)).cell? ⟨b, 6, none⟩ = some (.slice (some ⟨gb, 0, none⟩) (m.setG k0 { (⟨st.items, st.dead, wrap64 (st.ch + 1), st.out⟩ : RS) with items := st.items.set q { x with done := 2 } }).groups.length gc) := by
                    rw [setG_len]
                    rw [setG_len] at c66
                    exact (World.cell?_of_block (Below.heap_setCell w6 ⟨gi, q * 4 + 1, none⟩ (.int .i64 2) b (fun e => ne1 e.symm))).trans c66
                  obtain ⟨io7, ic7, dO7, dc7, bo7, bc7, L7⟩ := hy7.look (setG_at hg) c67
                  have d37 : (w6.setCell ⟨gi, q * 4 + 1, none⟩ (.int .i64 2)).cell? ⟨gb, k0 * 4 + 3, none⟩ = some (.slice dO7 st.dead.length dc7) := L7.d3
                  have hD7 : Row (w6.setCell ⟨gi, q * 4 + 1, none⟩ (.int .i64 2)) T2 (.y i 4 k0) 3 1 (.slice dO7 st.dead.length dc7) st.dead.length (st.dead.map natV) := L7.dead
                  have hal := step_alloc (w6.setCell ⟨gi, q * 4 + 1, none⟩ (.int .i64 2)) T2 (.cells #[.int .i64 (q : Int)] 3) (fun _ => False)
                  have hD7a := hD7.step hal (fun h => h)
                  have hnw : ∀ j u, [Value.int .i64 (q : Int)][j]? = some u → ((w6.setCell ⟨gi, q * 4 + 1, none⟩ (.int .i64 2)).alloc (.cells #[.int .i64 (q : Int)] 3)).cell? ((⟨w6.heap.size, 0, none⟩ : Addr).add j) = some u := by
                    have := cell_one_new (w6.setCell ⟨gi, q * 4 + 1, none⟩ (.int .i64 2)) (.int .i64 (q : Int)) 3
                    simpa using this
                  have lb7 := L7.lb
                  have tb7 := L7.tb
                  have lg7 := L7.lg
                  have tg7 := L7.tg
                  have fg7 := L7.fg (k0 * 4 + 3)
                  have hout7 := hout6.step hs7 (by rintro ⟨r, j, e⟩; exact ht.1 (by rw [e]))
                  have hfr7 := hfr6.step hs7 (by rintro ⟨r, j, e⟩; cases e)
                  have hd37a := World.cell?_of_block (w := w6.setCell ⟨gi, q * 4 + 1, none⟩ (.int .i64 2)) (a := ⟨gb, k0 * 4 + 3, none⟩) (Below.heap_alloc (w6.setCell ⟨gi, q * 4 + 1, none⟩ (.int .i64 2)) (.cells #[.int .i64 (q : Int)] 3) gb lg7)
                  have hf37a := World.frozen?_of_block (w := w6.setCell ⟨gi, q * 4 + 1, none⟩ (.int .i64 2)) (a := ⟨gb, k0 * 4 + 3, none⟩) (Below.heap_alloc (w6.setCell ⟨gi, q * 4 + 1, none⟩ (.int .i64 2)) (.cells #[.int .i64 (q : Int)] 3) gb lg7)
                  clear L L7 hit
                  go_wp2_with (first
                    | (at_builtin; refine wpList_append_row rfl _ _ 50 rfl 3 i0 (.int .i64 0) 1 8 Tryz.underlying50 hi hz0 hz1 hz2 rfl (by decide) _ _ _ rfl hD7a ⟨w6.heap.size, 0, none⟩ 1 1 [.int .i64 (q : Int)] rfl rfl hnw (by simp [Value.oneCell']) (by decide) (by unfold maxLen; omega) (by omega) ?_; intro dg dcap w8 T8 hD8 hs8; have e83 := (hs8.cell (p := ⟨gb, k0 * 4 + 3, none⟩) (by simp at lg7 ⊢; omega) (by rw [tg7]; simp)).trans (hd37a.trans d37); have f83 := (World.frozen?_of_block (hs8.block gb (by simp at lg7 ⊢; omega) (by rw [tg7]; simp))).trans (hf37a.trans fg7))
                    | go_in)
                  have hsA : Step (fun s => s = .y i 4 k0) (w6.setCell ⟨gi, q * 4 + 1, none⟩ (.int .i64 2)) T2 w8 T8 := (step_alloc _ _ _ _).trans hs8
                  obtain ⟨hy9, hs9⟩ := hy7.addDead (setG_at hg) c67 hsA (d := st.dead ++ [q]) (v := .slice (some ⟨dg, 0, none⟩) (st.dead.length + 1) dcap) (by simpa [natV] using hD8)
                  rw [setG_setG] at hy9
                  have c69 : (w8.setCell ⟨gb, k0 * 4 + 3, none⟩ (.slice (some ⟨dg, 0, none⟩) (st.dead.length + 1) dcap)).cell? ⟨b, 6, none⟩ = some (.slice (some ⟨gb, 0, none⟩) m.groups.length gc) := by
                    rw [setG_len] at c67
                    exact (World.cell?_of_block (Below.heap_setCell w8 ⟨gb, k0 * 4 + 3, none⟩ (.slice (some ⟨dg, 0, none⟩) (st.dead.length + 1) dcap) b (fun e => ne3 e.symm))).trans ((hsA.cell (p := ⟨b, 6, none⟩) lb7 (by rw [tb7]; simp)).trans c67)
                  refine ⟨⟨k + 1, ⟨st.items.set q { x with done := 2 }, st.dead ++ [q], wrap64 (st.ch + 1), st.out⟩, T8, ao, cap, by omega, by simp, rfl, ?_⟩, by simp [intOf]; omega⟩
                  exact ⟨(hk6'.trans (hs7.mono (fun _ h => .inl h))).trans (hs9.mono (fun _ h => .inl h)), hy9, by rw [setG_len]; exact c69, hout7.step hs9 (by rintro ⟨r, j, e⟩; exact ht.1 (by rw [e])), hfr7.step hs9 (by rintro ⟨r, j, e⟩; cases e), by simp [hil], by simp; omega, fun d hd => by
                    simp at hd
                    rcases hd with h | h
                    · exact hdd0 d h
                    · omega, by rw [hrun.out, hst.out]⟩
                · have hst : Hid (recvStep m g.start fr st k = ⟨st.items.set q { x with tries := wrap64 (x.tries + 1), till := m.time + m.c.l }, st.dead, wrap64 (st.ch + 1), st.out ++ [⟨q, wrap64 (x.tries + 1), m.bodies.getD q ⟨#[]⟩⟩]⟩) := hide (by rw [hsk.out]; simp [recvOne, hps, hdead])
                  have htm := hok.time
                  have hgl := good_all hok.good
                  have hwl : wrap64 (m.time + m.c.l) = m.time + m.c.l := by unfold wrap64; omega
                  obtain ⟨hy7, hs7⟩ := hy6'.itemAt hok6 (setG_at hg) hx c66 d26' 0 (.int .i64 (wrap64 (x.tries + 1))) { x with tries := wrap64 (x.tries + 1) } (by decide) ((itVals_set st.items q x hx).1 _)
                  rw [setG_setI hg] at hy7
                  rw [Nat.add_zero] at hy7 hs7
                  have z0 := hit.frozen (q * 4)
                  have z2 := hit.frozen (q * 4 + 2)
                  have hql := (List.getElem?_eq_some_iff.1 hx).1
                  have hx7 : (st.items.set q { x with tries := wrap64 (x.tries + 1) })[q]? = some { x with tries := wrap64 (x.tries + 1) } := by simp [hql]
                  have hok7 : (m.setG k0 { (⟨st.items, st.dead, wrap64 (st.ch + 1), st.out⟩ : RS) with items := st.items.set q { x with tries := wrap64 (x.tries + 1) } }).Ok := setG_ok hok (by simp [hil]) hdd0
                  have c67 : (w6.setCell ⟨gi, q * 4, none⟩ (.int .i64 (wrap64 (x.tries + 1)))).cell? ⟨b, 6, none⟩ = some (.slice (some ⟨gb, 0, none⟩) (m.setG k0 { (⟨st.items, st.dead, wrap64 (st.ch + 1), st.out⟩ : RS) with items := st.items.set q { x with tries := wrap64 (x.tries + 1) } }).groups.length gc) := by
                    rw [setG_len]
                    rw [setG_len] at c66
                    exact (World.cell?_of_block (Below.heap_setCell w6 ⟨gi, q * 4, none⟩ (.int .i64 (wrap64 (x.tries + 1))) b (fun e => ne1 e.symm))).trans c66
                  have d27 : (w6.setCell ⟨gi, q * 4, none⟩ (.int .i64 (wrap64 (x.tries + 1)))).cell? ⟨gb, k0 * 4 + 2, none⟩ = some (.slice (some ⟨gi, 0, none⟩) m.bodies.length ic6) :=
                    (World.cell?_of_block (Below.heap_setCell w6 ⟨gi, q * 4, none⟩ (.int .i64 (wrap64 (x.tries + 1))) gb (fun e => ne2 e.symm))).trans d26'
                  obtain ⟨hy8, hs8⟩ := hy7.itemAt hok7 (setG_at hg) hx7 c67 d27 2 (.int .i64 (m.time + m.c.l)) { x with tries := wrap64 (x.tries + 1), till := m.time + m.c.l } (by decide) ((itVals_set _ q _ hx7).2.2.1 _)
                  rw [setG_setI hg] at hy8
                  simp only [List.set_set] at hy8
                  have c6_0 : w6.cell? ⟨b, 0, none⟩ = some (.int .i64 m.c.l) := L.c0
                  have c6_7 : w6.cell? ⟨b, 7, none⟩ = some (.int .i64 m.time) := L.c7
                  have lb6 := L.lb
                  have li6 := hit.lt
                  clear L
                  go_wp2_with fail
                  go_region
                  have hb8 : Below ((w6.setCell ⟨gi, q * 4, none⟩ (.int .i64 (wrap64 (x.tries + 1)))).setCell ⟨gi, q * 4 + 2, none⟩ (.int .i64 (m.time + m.c.l))).heap.size ((w6.setCell ⟨gi, q * 4, none⟩ (.int .i64 (wrap64 (x.tries + 1)))).setCell ⟨gi, q * 4 + 2, none⟩ (.int .i64 (m.time + m.c.l))) ((w6.setCell ⟨gi, q * 4, none⟩ (.int .i64 (wrap64 (x.tries + 1)))).setCell ⟨gi, q * 4 + 2, none⟩ (.int .i64 (m.time + m.c.l))).drew := (Below.refl _ _).drew
                  have hy8d := hy8.step (step_below (fun _ => False) T2 hb8) (fun _ _ h => h)
                  have hsy8 := (hs7.trans hs8).trans (step_below (fun s => ∃ r j, s = Tag.y i r j) T2 hb8)
                  have hk8 := hk6'.trans (hsy8.mono (fun _ h => (.inl h : RecvS i t _)))
                  have hout8 := hout6.step hsy8 (by rintro ⟨r, j, e⟩; exact ht.1 (by rw [e]))
                  have hfr8 := hfr6.step hsy8 (by rintro ⟨r, j, e⟩; cases e)
                  have c68 : (((w6.setCell ⟨gi, q * 4, none⟩ (.int .i64 (wrap64 (x.tries + 1)))).setCell ⟨gi, q * 4 + 2, none⟩ (.int .i64 (m.time + m.c.l))).drew).cell? ⟨b, 6, none⟩ = some (.slice (some ⟨gb, 0, none⟩) m.groups.length gc) := by
                    rw [setG_len] at c67
                    exact (World.cell?_of_block (Below.heap_setCell (w6.setCell ⟨gi, q * 4, none⟩ (.int .i64 (wrap64 (x.tries + 1)))) ⟨gi, q * 4 + 2, none⟩ (.int .i64 (m.time + m.c.l)) b (fun e => ne1 e.symm))).trans c67
                  have d28 : (((w6.setCell ⟨gi, q * 4, none⟩ (.int .i64 (wrap64 (x.tries + 1)))).setCell ⟨gi, q * 4 + 2, none⟩ (.int .i64 (m.time + m.c.l))).drew).cell? ⟨gb, k0 * 4 + 2, none⟩ = some (.slice (some ⟨gi, 0, none⟩) m.bodies.length ic6) :=
                    (World.cell?_of_block (Below.heap_setCell (w6.setCell ⟨gi, q * 4, none⟩ (.int .i64 (wrap64 (x.tries + 1)))) ⟨gi, q * 4 + 2, none⟩ (.int .i64 (m.time + m.c.l)) gb (fun e => ne2 e.symm))).trans d27
                  clear hy7 hy8 hs7 hs8 hsy8 hb8 c67 d27 z0 z2 c6_0 c6_7 hit t0 t1 t2 d26' d26 c66 hout6 hfr6 hy6' hk6' lb6 li6 hok7
                  generalize ((w6.setCell ⟨gi, q * 4, none⟩ (.int .i64 (wrap64 (x.tries + 1)))).setCell ⟨gi, q * 4 + 2, none⟩ (.int .i64 (m.time + m.c.l))).drew = w8 at *
                  obtain ⟨io8, ic8, dO8, dc8, bo8, bc8, L8⟩ := hy8d.look (setG_at hg) (gb := gb) (gc := gc) (by rw [setG_len]; exact c68)
                  have hio8 := (L8.d2).symm.trans d28
                  simp only [Option.some.injEq, Value.slice.injEq] at hio8
                  obtain ⟨h18, _, h28⟩ := hio8
                  subst h18
                  subst h28
                  have hx8 : (st.items.set q { x with tries := wrap64 (x.tries + 1), till := m.time + m.c.l })[q]? = some { x with tries := wrap64 (x.tries + 1), till := m.time + m.c.l } := by simp [hql]
                  have t08 : w8.cell? ⟨gi, q * 4, none⟩ = some (.int .i64 (wrap64 (x.tries + 1))) := L8.items.cell (itVals_at _ q _ hx8).1
                  obtain ⟨bd, hbd⟩ : ∃ bd, m.bodies[q]? = some bd := ⟨_, List.getElem?_eq_getElem hqN⟩
                  have hbod : Row w8 T2 (.y i 1 0) 9 1 (.slice bo8 m.bodies.length bc8) m.bodies.length (m.bodies.map .string) := L8.bod
                  obtain ⟨gz, bc', e⟩ := row_some hbod (by omega)
                  cases e
                  have tb8 := hbod.cell (show (m.bodies.map Value.string)[q]? = some (.string bd) by simp [hbd])
                  have c48 : w8.cell? ⟨b, 4, none⟩ = some (.slice (some ⟨gz, 0, none⟩) m.bodies.length bc8) := L8.c4
                  have lb9 := L8.lb
                  have li9 := L8.items.lt
                  have lz9 := hbod.lt
                  obtain ⟨j0, hj, hj0, hj1, hj2⟩ := info_parts info71r
                  have hba : Below w8.heap.size w8 (w8.drew.alloc (.cells #[.int .i64 (q : Int), .int .i64 (wrap64 (x.tries + 1)), .string bd] 82)) := (Below.refl _ _).drew.alloc (by simp) _
                  have hoa := hout8.step (step_below (fun _ => False) T2 hba) (fun h => h)
                  have hol : st.out.length ≤ 32 := by omega
                  obtain ⟨og, oc, w9, T9, hrun9, hO9, hs9⟩ := run_append_row (P := Tryz.prog) 77 77 82 j0 _ 3 32 Tryz.underlying77 hj hj0 hj1 hj2 rfl (by decide) _ _ _ hoa ⟨w8.heap.size, 0, none⟩ 1 1 [.int .i64 (q : Int), .int .i64 (wrap64 (x.tries + 1)), .string bd] rfl (cells_new5 w8.drew _ 82) (by simp [Value.oneCell']) (by decide) (by unfold maxLen; omega) (by omega)
                  have hsB : Step (fun s => s = t) w8 T2 w9 T9 := (step_below _ T2 hba).trans hs9
                  have hy9 := hy8d.step hsB (fun r j e => ht.1 (by rw [← e]))
                  have c69 := (hsB.cell (p := ⟨b, 6, none⟩) lb9 (by rw [L8.tb]; exact fun e => ht.1 (by rw [← e]))).trans c68
                  have hfr9 := hfr8.step hsB (fun e => ht.2 (by rw [← e]))
                  have hgd : m.bodies.getD q ⟨#[]⟩ = bd := by simp [List.getD, hbd]
                  have hR2 : RI w1 T w9 T9 i t b m k0 g gb gc fo fc fr (some ⟨og, 0, none⟩) oc n (k + 1) ⟨st.items.set q { x with tries := wrap64 (x.tries + 1), till := m.time + m.c.l }, st.dead, wrap64 (st.ch + 1), st.out ++ [⟨q, wrap64 (x.tries + 1), m.bodies.getD q ⟨#[]⟩⟩]⟩ :=
                    ⟨hk8.trans (hsB.mono (fun _ h => .inr (.inl h))), hy9, by rw [setG_len]; exact c69, by rw [hgd, dlVals_append]; simpa [dlVals] using hO9, hfr9, by simp [hil], by simp; omega, hdd0, by rw [hrun.out, hst.out]⟩
                  clear L8 hbod hoa hO9 hs9 hsB hy9 hy8d hout8 hfr8 hfr9 hk8 hba hx8 d28 c68
                  go_wp2_with fail
                  go_region_law (refine step_append_known rfl _ _ 77 rfl _ _ _ rfl rfl hrun9 ?_)
                  all_goals
                    go_wp2
                    exact ⟨⟨k + 1, _, T9, some ⟨og, 0, none⟩, oc, by omega, by simp, by simp, hR2⟩, by simp [intOf]; omega⟩
            · have hfin : Hid (recvAll m g n = st) := hide (R.run.trans (recvRun_full (by omega) _))
              clear d2 c6r
              go_wp2
              go_ret2
              rw [e1.out, e2.out, e3.out, hfin.out]
              exact ⟨ao, cap, rfl, T2, R.step, R.yq, R.out⟩
          · have hfin : Hid (recvAll m g n = st) := hide (by
              have := R.run
              rw [show m.bodies.length + fr.length - k = 0 by omega] at this
              exact this)
            clear d2 c6r
            go_wp2
            go_ret2
            rw [e1.out, e2.out, e3.out, hfin.out]
            exact ⟨ao, cap, rfl, T2, R.step, R.yq, R.out⟩

end Go.Proofs.YtockkceclkcgbaaGreatDoor

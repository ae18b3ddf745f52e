/- The program's queue keeps the document's contracts. -/
import Derived.Test.YtockkceclkcgbaaGreatDoorB36
import Derived.Test.YtockkceclkcgbaaGreatDoorB35
namespace Go.Proofs.YtockkceclkcgbaaGreatDoor
open Go.RowKit

theorem xopenL_any (c : Conf) (i : Nat) (w : World) (T : Nat → Tag) :
    Calls Tryz.prog 25 #[.agg c.cells, .string ⟨#[]⟩] w fun e w' => (goodC c = false ∧ e = .returned (.tuple #[.pointer none, .int .i64 1]) ∧ Below w.heap.size w w') ∨
      (goodC c = true ∧ ∃ b T', e = .returned (.tuple #[.pointer (some ⟨b, 0, none⟩), .int .i64 0]) ∧ Step (XT i) w T w' T' ∧ XM w' T' i b ⟨c, [], 0, [], 0, 0⟩ (.slice none 0 0) (.int .u32 (seedS c)) []) := by
  refine (open_any c ⟨#[]⟩ i w T (fun w' T' b => XM w' T' i b ⟨c, [], 0, [], 0, 0⟩ (.slice none 0 0) (.int .u32 (seedS c)) []) False (fun b mb w1 T1 hc hs hB hN => ?_)).mono ?_
  · refine (restore_empty c i b mb w1 T1 hB hN).mono ?_
    rintro e w2 ⟨rfl, hb⟩
    have g2 := step_below (fun _ => False) T1 hb
    refine ⟨T1, step_below _ T1 hb, .inl ⟨rfl, ⟨by simp, by simp, by simp [MQ.names], by simp [MQ.names], by simp, .slice none 0 0, mb, fun _ => 0, fun _ => newP 0, hB.step g2 (fun h => h), sub_nil _ _ _, hN.step g2 (fun h => h), fun k g hg => by simp at hg, brow_nil _ _ _⟩⟩⟩
  · rintro e w2 (h | ⟨hc, T2, s2, (⟨b, rfl, hx⟩ | ⟨hF, _⟩)⟩)
    · exact .inl h
    · exact .inr ⟨hc, b, T2, rfl, s2, hx⟩
    · exact hF.elim
theorem xopen_any (c : Conf) (i : Nat) (w : World) (T : Nat → Tag) :
    Calls Tryz.prog 25 #[.agg c.cells, .string ⟨#[]⟩] w fun e w' => (goodC c = false ∧ e = .returned (.tuple #[.pointer none, .int .i64 1]) ∧ Below w.heap.size w w') ∨
      (goodC c = true ∧ ∃ b T', e = .returned (.tuple #[.pointer (some ⟨b, 0, none⟩), .int .i64 0]) ∧ Step (XT i) w T w' T' ∧ X w' T' i b ⟨c, [], 0, [], 0, 0⟩) := by
  refine (xopenL_any c i w T).mono ?_
  rintro e w2 (h | ⟨hc, b, T2, rfl, s2, hx⟩)
  · exact .inl h
  · exact .inr ⟨hc, b, T2, rfl, s2, _, _, _, hx, log_new hc⟩

theorem xc (B : Int) (hB : B ≤ 3999999999999940000) : XC X B where
  step := fun hx hs hS => hx.step hs hS
  opn := fun c i w T => xopen_any c i w T
  log := fun i b m w T hx _ => by
    obtain ⟨vL, s, lg, hx, h2⟩ := hx
    refine (xlog_any i b m w T hx).mono ?_
    rintro e w1 ⟨rfl, rfl⟩
    exact ⟨_, rfl, T, Step.refl _ _ _, vL, s, lg, hx, h2⟩
  enq := fun i b m t w T hx hf => by
    obtain ⟨vL, s, lg, hx, h2, h3⟩ := hx
    refine (xenq_any i b m t w T hx hf.ok h2.lt (by have := h2.len; omega)).mono ?_
    rintro e w1 ⟨rfl, T1, vL1, s1, hx1⟩
    exact ⟨rfl, T1, s1, vL1, _, _, hx1, log_enq h2 hx.rels hf.ok hx.small, lsd_enq h3 hf.ok⟩
  grp := fun i b m nm fr w T hx hf => by
    obtain ⟨vL, s, lg, hx, h2, h3⟩ := hx
    refine (xgrp_any i b m nm fr w T hx hf.ok h2.lt (by have := h2.len; omega)).mono ?_
    rintro e w1 ⟨rfl, T1, vL1, s1, hx1⟩
    exact ⟨rfl, T1, s1, vL1, _, _, hx1, log_grp h2 hf.ok hx.small, lsd_grp h3 hf.ok⟩
  recv := fun i b m nm n t w T hx hf => by
    obtain ⟨vL, s, lg, hx, h2, h3⟩ := hx
    refine (xrecv_any i b m nm n t w T hx hf hB h2.lt (by have := h2.len; omega)).mono ?_
    rintro e w1 ⟨ao, cap, rfl, T1, vL1, s1, hx1, hR⟩
    obtain ⟨l1, l2⟩ := log_recv (nm := nm) (n := n) h2 hx.rels hf.ok hx.small hx.nodup hx.short h3
    exact ⟨ao, cap, rfl, T1, s1, ⟨vL1, _, _, hx1, l1, l2⟩, hR⟩
  ack := fun i b m nm off tr w T hx hf => by
    obtain ⟨vL, s, lg, hx, h2, h3⟩ := hx
    refine (xack_any i b m nm off tr w T hx hf.ok h2.lt (by have := h2.len; omega)).mono ?_
    rintro e w1 ⟨rfl, T1, vL1, s1, hx1⟩
    exact ⟨rfl, T1, s1, vL1, _, _, hx1, log_ack h2 hx.rels hf.ok hx.small hx.nodup hx.short h3, lsd_ack hf.ok h3⟩
  nack := fun i b m nm off tr d w T hx hf => by
    obtain ⟨vL, s, lg, hx, h2, h3⟩ := hx
    refine (xnack_any i b m nm off tr d w T hx hf.ok).mono ?_
    rintro e w1 ⟨rfl, T1, s1, hx1⟩
    exact ⟨rfl, T1, s1, vL, s, lg, hx1, log_nack h2 hx.rels hf.ok hx.small h3⟩
  ext := fun i b m nm off tr d w T hx hf => by
    obtain ⟨vL, s, lg, hx, h2, h3⟩ := hx
    refine (xextend_any i b m nm off tr d w T hx hf.ok).mono ?_
    rintro e w1 ⟨rfl, T1, s1, hx1⟩
    exact ⟨rfl, T1, s1, vL, s, lg, hx1, log_ext h2 hx.rels hf.ok hx.small h3⟩
  tick := fun i b m d w T hx hf => by
    obtain ⟨vL, s, lg, hx, h2, h3⟩ := hx
    refine (xtick_any i b m d w T hx hf.ok).mono ?_
    rintro e w1 ⟨rfl, T1, s1, hx1⟩
    exact ⟨rfl, T1, s1, vL, s, lg, hx1, log_tick h2 h3⟩
  done := fun i b m nm t w T hx hf => by
    obtain ⟨vL, s, lg, hx, h2⟩ := hx
    refine (xdone_any i b m nm t w T hx hf.ok).mono ?_
    rintro e w1 ⟨ao, cap, rfl, T1, s1, hx1, hR⟩
    exact ⟨ao, cap, rfl, T1, s1, ⟨vL, s, lg, hx1, h2⟩, hR⟩
  dead := fun i b m nm t w T hx hf => by
    obtain ⟨vL, s, lg, hx, h2⟩ := hx
    refine (xdead_any i b m nm t w T hx (hf.dead hx.small)).mono ?_
    rintro e w1 ⟨ao, cap, rfl, T1, s1, hx1, hR⟩
    exact ⟨ao, cap, rfl, T1, s1, ⟨vL, s, lg, hx1, h2⟩, hR⟩
  span := fun i b m w T hx hf => by
    obtain ⟨vL, s, lg, hx, h2⟩ := hx
    refine (xspan_any i b m w T hx hf.ok).mono ?_
    rintro e w1 ⟨rfl, T1, s1, hx1⟩
    exact ⟨rfl, T1, s1, vL, s, lg, hx1, h2⟩
  ret := fun i b m w T hx hf => by
    obtain ⟨vL, s, lg, hx, h2, h3⟩ := hx
    refine (xretain_any i b m w T hx hf.ok h2.lt (by have := h2.len; omega)).mono ?_
    rintro e w1 ⟨rfl, T1, vL1, s1, hx1⟩
    exact ⟨rfl, T1, s1, vL1, _, _, hx1, log_ret h2 hx.rels hf.ok hx.small, lsd_ret h3⟩

end Go.Proofs.YtockkceclkcgbaaGreatDoor

/- The program's queue in memory against what a log tells (Core); replay of an Ack. -/
namespace Go.Proofs.YtockkceclkcgbaaGreatDoor
open Go.RowKit Go.Maps

theorem find_idx (s : ByteArray) : ∀ gs : List (ByteArray × CG), (idx s (gs.map (·.1)) = none → gs.find? (fun p => decide (p.1 = s)) = none) ∧ ∀ k, idx s (gs.map (·.1)) = some k → ∃ g, gs[k]? = some (s, g) ∧ gs.find? (fun p => decide (p.1 = s)) = some (s, g)
  | [] => ⟨fun _ => rfl, fun k h => by simp [idx] at h⟩
  | (x, g) :: r => by
    have ih := find_idx s r
    by_cases hx : x = s
    · subst hx
      refine ⟨fun h => by simp [idx] at h, fun k h => ?_⟩
      simp [idx] at h
      subst h
      exact ⟨g, by simp, by simp⟩
    · refine ⟨fun h => ?_, fun k h => ?_⟩
      · simp [idx, hx] at h
        simp [hx]
        simpa using ih.1 h
      · simp [idx, hx] at h
        obtain ⟨j, hj, rfl⟩ := h
        obtain ⟨g', h1, h2⟩ := ih.2 j hj
        exact ⟨g', by simpa using h1, by simp [hx]; simpa using h2⟩
theorem core_none {q : Core} {s : ByteArray} (h : idx s q.names = none) : q.find s = none := by
  unfold Core.find
  rw [(find_idx s q.gs).1 h]
  rfl
theorem core_some {q : Core} {s : ByteArray} {k : Nat} (h : idx s q.names = some k) : ∃ g, q.gs[k]? = some (s, g) ∧ q.find s = some g := by
  obtain ⟨g, h1, h2⟩ := (find_idx s q.gs).2 k h
  exact ⟨g, h1, by unfold Core.find; rw [h2]; rfl⟩
theorem core_put_at {q : Core} {s : ByteArray} {k : Nat} {g g' : CG} (hn : q.names.Nodup) (hk : q.gs[k]? = some (s, g)) {j : Nat} {p : ByteArray × CG} (hj : (q.put s g').gs[j]? = some p) : (j = k ∧ p = (s, g')) ∨ (j ≠ k ∧ q.gs[j]? = some p) := by
  simp only [Core.put, List.getElem?_map, Option.map_eq_some_iff] at hj
  obtain ⟨r, hr, e⟩ := hj
  by_cases hs : r.1 = s
  · left
    rw [if_pos hs] at e
    refine ⟨?_, e.symm⟩
    have h1 : q.names[j]? = some s := by simp [Core.names, hr, hs]
    have h2 : q.names[k]? = some s := by simp [Core.names, hk]
    have hjl := (List.getElem?_eq_some_iff.1 h1).1
    exact (List.getElem?_inj hjl hn).1 (h1.trans h2.symm)
  · right
    rw [if_neg hs] at e
    subst e
    refine ⟨fun e => ?_, hr⟩
    subst e
    rw [hk] at hr
    cases hr
    exact hs rfl

/-- The program's queue of number i, in block b, as its log lg makes it: it is co; the sum of the log is ls. -/
structure CM (w : World) (T : Nat → Tag) (i b : Nat) (c : Conf) (co : Core) (vL : Value) (ls : Nat) (lg : Bs) : Prop where
  good : goodC c = true
  ok : COk c co
  mem : ∃ (vB : Value) (mb : Nat) (f : Nat → Nat) (ps : Nat → PG), Blk w T (.q i 0 0) b #[.int .i64 c.l, .int .i64 c.d, .int .i64 c.s, .int .i64 c.k, .int .i64 0, .int .i64 co.floor, vB, .map (some mb), vL, .int .u32 ls] 105 ∧
    Sub w T (.q i 1 0) vB (co.bodies.map .string) ∧ NM w T (.q i 2 0) mb co.names f ∧ (∀ k p, co.gs[k]? = some p → GM w T i k (f k) (ps k) ∧ (ps k).core = p.2) ∧ BRow w T (.q i 1 1) vL lg
theorem CM.step {S : Tag → Prop} {w w' : World} {T T' : Nat → Tag} {i b : Nat} {c : Conf} {co : Core} {vL : Value} {ls : Nat} {lg : Bs} (h : CM w T i b c co vL ls lg) (hs : Step S w T w' T') (hS : ∀ r k, (r ≠ 0 ∨ k = 0) → ¬ S (.q i r k)) : CM w' T' i b c co vL ls lg := by
  obtain ⟨h1, h2, vB, mb, f, ps, hB, hR, hN, hG, hL⟩ := h
  exact ⟨h1, h2, vB, mb, f, ps, hB.step hs (hS _ _ (.inr rfl)), hR.step hs (hS _ _ (.inr rfl)), hN.step hs (hS _ _ (.inr rfl)), fun k g hg => ⟨(hG k g hg).1.step hs (fun r hr => hS _ _ (.inl (by omega))), (hG k g hg).2⟩, hL.step hs (hS _ _ (.inl (by decide)))⟩
theorem sg_xt {i k : Nat} (t : Tag) (h : SG i k t) : XT i t := by
  obtain ⟨r, _, rfl⟩ := h
  exact ⟨rfl, rfl⟩
/-- what a replay answers -/
def repA {α : Type} (P : α → Prop) (e : Ending) : Option α → Prop
  | none => e = .returned (.bool false)
  | some x => e = .returned (.bool true) ∧ P x
/-- one group is another -/
theorem cm_put {w w' : World} {T T' : Nat → Tag} {i b k : Nat} {c : Conf} {co : Core} {vL : Value} {ls : Nat} {lg : Bs} {vB : Value} {mb : Nat} {f : Nat → Nat} {ps : Nat → PG} {p' : PG} {s : ByteArray} {g : CG} (h1 : goodC c = true) (h2 : COk c co)
    (hB : Blk w T (.q i 0 0) b #[.int .i64 c.l, .int .i64 c.d, .int .i64 c.s, .int .i64 c.k, .int .i64 0, .int .i64 co.floor, vB, .map (some mb), vL, .int .u32 ls] 105)
    (hS : Sub w T (.q i 1 0) vB (co.bodies.map .string)) (hN : NM w T (.q i 2 0) mb co.names f) (hG : ∀ k p, co.gs[k]? = some p → GM w T i k (f k) (ps k) ∧ (ps k).core = p.2) (hL : BRow w T (.q i 1 1) vL lg)
    (hk : co.gs[k]? = some (s, g)) (hs : Step (SG i k) w T w' T') (hG' : GM w' T' i k (f k) p') (hok : GOk c co p'.core) : CM w' T' i b c (co.put s p'.core) vL ls lg := by
  refine ⟨h1, cok_put h2 hok, vB, mb, f, fun j => if j = k then p' else ps j, hB.step hs (nSG (by decide)), hS.step hs (nSG (by decide)), by rw [put_names]; exact hN.step hs (nSG (by decide)), fun j p hj => ?_, hL.step hs (nSG (by decide))⟩
  rcases core_put_at h2.once hk hj with ⟨rfl, rfl⟩ | ⟨hne, hj2⟩
  · simp only [if_true]
    exact ⟨hG', trivial⟩
  · simp only [if_neg hne]
    exact ⟨(hG j p hj2).1.step hs (fun r _ => nSGk hne), (hG j p hj2).2⟩
theorem core_finish (p : PG) (n : Int) : (finishP p n).core = p.core.finish n n := by
  rw [← finishR_one]
  rfl
theorem GM.key {w : World} {T : Nat → Tag} {i k gb : Nat} {p : PG} (h : GM w T i k gb p) {n : Int} (hn : p.tr n ≠ 0) : 0 ≤ n ∧ n < 400 := by
  obtain ⟨_, _, tb, _, _, _, _, ⟨_, D, _, hat, hbd⟩, _⟩ := h
  cases hh : Maps.has D (.int .i64 n) with
  | true => exact hbd n hh
  | false =>
    have := hat n
    rw [atKey_of_not_has hh] at this
    simp at this
    exact absurd this.symm hn

set_option maxRecDepth 100000 in
set_option maxHeartbeats 2000000 in
theorem ackAgain_any (i b : Nat) (c : Conf) (co : Core) (vL : Value) (ls : Nat) (lg : Bs) (s : ByteArray) (n : Int) (w : World) (T : Nat → Tag) (h : CM w T i b c co vL ls lg) (hi : i64 n) :
    Calls Tryz.prog 153 #[.pointer (some ⟨b, 0, none⟩), .string s, .int .i64 n] w fun e w' => ∃ T', Step (XT i) w T w' T' ∧
      repA (fun co' => CM w' T' i b c co' vL ls lg) e (replayN c co 97 s [n]) := by
  obtain ⟨h1, h2, vB, mb, f, ps, hB, hS, hN, hG, hL⟩ := h
  have lks := hN.look (fun s hs => (h2.name s hs).2) s
  have lb := hB.lt
  have c7 := hB.cell (j := 7) rfl
  simp only [List.getElem_toArray, List.getElem_cons_succ, List.getElem_cons_zero] at c7
  cases ha : idx s co.names with
  | none =>
    have er : replayN c co 97 s [n] = none := by simp [replayN, core_none ha]
    rw [ha] at lks
    simp only [Option.map_none, ptrO] at lks
    rw [er]
    go_enter Tryz.func153, Tryz.ntmps153
    go_wp2
    go_ret
    exact ⟨T, Step.refl _ _ _, rfl⟩
  | some k =>
    obtain ⟨g, hk, hf⟩ := core_some ha
    obtain ⟨hGk, hcore⟩ := hG k _ hk
    rw [ha] at lks
    simp only [Option.map_some, ptrO, ptrV] at lks
    have hgo := h2.grp _ (List.mem_of_getElem? hk)
    have hset : setB (ps k).done = true := by have := hgo.set; rw [← hcore] at this; exact this
    have hkey := fun hn => hGk.key (n := n) hn
    have hGk2 := hGk
    obtain ⟨vD, vE, tb, wb, hBg, hD, hEd, hT, hW⟩ := hGk2
    have lg' := hBg.lt
    have d3 := hBg.cell (j := 3) rfl
    simp only [List.getElem_toArray, List.getElem_cons_succ, List.getElem_cons_zero] at d3
    have lkT := hT.look hi
    have htr : g.tr n = (ps k).tr n := (congrFun (congrArg CG.tr hcore) n).symm
    by_cases h0 : (ps k).tr n = 0
    · have er : replayN c co 97 s [n] = none := by simp [replayN, hf, htr, h0]
      rw [er]
      go_enter Tryz.func153, Tryz.ntmps153
      go_wp2
      go_ret
      exact ⟨T, Step.refl _ _ _, rfl⟩
    · have er : replayN c co 97 s [n] = some (co.put s ((finishP (ps k) n).core)) := by simp [replayN, hf, htr, h0, core_finish, hcore]
      obtain ⟨k0, k4⟩ := hkey h0
      obtain ⟨n', rfl⟩ : ∃ n' : Nat, n = n' := ⟨n.toNat, by omega⟩
      have hout := hgo.out n' (by rw [htr]; exact h0)
      have hok : GOk c co (finishP (ps k) n').core := by
        rw [core_finish, hcore]
        exact gok_finish hgo h2.fl h2.stop hout.1 hout.2
      rw [er]
      have hfin := finish_any i k (f k) (ps k) n' w T hGk hset (by omega)
      go_enter Tryz.func153, Tryz.ntmps153
      go_wp2_with fail
      refine hfin.mono ?_
      rintro e1 w1 ⟨rfl, T1, s1, hG1⟩
      go_wp2
      go_ret
      exact ⟨T1, s1.mono (fun t h => sg_xt t h), rfl, cm_put h1 h2 hB hS hN hG hL hk s1 hG1 hok⟩

end Go.Proofs.YtockkceclkcgbaaGreatDoor

/- Replay of a Receive: serveAgain. -/
namespace Go.Proofs.YtockkceclkcgbaaGreatDoor
open Go.RowKit Go.Maps

/-- a document's queue with these bodies, to read the contracts over -/
def fakeM (c : Conf) (co : Core) : MQ := ⟨c, List.replicate co.floor.toNat ⟨#[]⟩ ++ co.bodies, co.floor, [], 0, 0⟩
theorem fake_drop (c : Conf) (co : Core) : (fakeM c co).bodies.drop (fakeM c co).floor.toNat = co.bodies := by
  simp [fakeM]
theorem fake_len {c : Conf} {co : Core} (h0 : 0 ≤ co.floor) (h4 : co.stop ≤ 400) : (fakeM c co).bodies.length ≤ 400 := by
  simp [fakeM]
  unfold Core.stop at h4
  omega
theorem fake_at {c : Conf} {co : Core} {n : Nat} (h0 : 0 ≤ co.floor) (h1 : co.floor ≤ n) (h2 : (n : Int) < co.stop) : (fakeM c co).bodies[n]? = some (co.body n) := by
  unfold Core.stop at h2
  have h3 : n - co.floor.toNat < co.bodies.length := by omega
  simp only [fakeM]
  rw [List.getElem?_append_right (by simp; omega)]
  unfold Core.body
  rw [List.length_replicate, List.getD_eq_getElem?_getD, show ((n : Int) - co.floor).toNat = n - co.floor.toNat by omega, List.getElem?_eq_getElem h3]
  rfl
theorem core_serve (d u : Int) (s : ByteArray) (p : PG) (n : Int) : (serveP d u s p n).core = p.core.serve d s n := by
  unfold serveP CG.serve
  by_cases h : d ≤ p.tr n
  · have h2 : d ≤ p.core.tr n := h
    simp only [h, h2, decide_true, cond_true]
    show (finishP (buryP p ⟨n, p.tr n, s⟩) n).core = _
    rw [core_finish]
    rfl
  · have h2 : ¬ d ≤ p.core.tr n := h
    simp only [h, h2, decide_false, cond_false]
    rfl
theorem serveAll_cons {c : Conf} {q : Core} {g : CG} {offs : List Int} {j : Nat} {o : Int} (h : offs[j]? = some o) : q.serveAll c g (offs.drop j) = bif q.has g o && !hasB g.done o then q.serveAll c (g.serve c.d (q.body o) o) (offs.drop (j + 1)) else none := by
  obtain ⟨hl, rfl⟩ := List.getElem?_eq_some_iff.1 h
  rw [List.drop_eq_getElem_cons hl]
  rfl
theorem gok_few {c : Conf} {q : Core} {g : CG} (h : GOk c q g) (h4 : q.stop ≤ 400) : g.dead.length ≤ 400 := by
  have := nodup_ints 400 (g.dead.map (·.off)) h.once (fun x hx => by
    obtain ⟨y, hy, rfl⟩ := List.mem_map.1 hx
    have h1 := (h.dead y hy).1
    have h2 := h.done _ h1
    have h3 := h.start
    omega)
  simpa using this

set_option maxRecDepth 100000 in
set_option maxHeartbeats 2000000 in
theorem serveAgain_any (i b : Nat) (c : Conf) (co : Core) (vL vO : Value) (ls : Nat) (lg : Bs) (s : ByteArray) (offs : List Int) (w : World) (T : Nat → Tag) (h : CM w T i b c co vL ls lg) (hO : Row w T (.q i 0 6) 3 1 vO offs.length (offs.map intV)) (hoff : ∀ o ∈ offs, 0 ≤ o ∧ o < 65536) (hol : offs.length ≤ 100000000000) :
    Calls Tryz.prog 152 #[.pointer (some ⟨b, 0, none⟩), .string s, vO] w fun e w' => ∃ T', Step (XT i) w T w' T' ∧
      repA (fun co' => CM w' T' i b c co' vL ls lg) e (replayN c co 114 s offs) := by
  obtain ⟨h1, h2, vB, mb, f, ps, hB, hS, hN, hG, hL⟩ := h
  obtain ⟨oo, oc, rfl⟩ := row_form hO
  have lks := hN.look (fun s hs => (h2.name s hs).2) s
  have lb := hB.lt
  have c7 := hB.cell (j := 7) rfl
  simp only [List.getElem_toArray, List.getElem_cons_succ, List.getElem_cons_zero] at c7
  cases ha : idx s co.names with
  | none =>
    have er : replayN c co 114 s offs = none := by simp [replayN, core_none ha]
    rw [ha] at lks
    simp only [Option.map_none, ptrO] at lks
    rw [er]
    go_enter Tryz.func152, Tryz.ntmps152
    go_wp2
    go_ret
    exact ⟨T, Step.refl _ _ _, rfl⟩
  | some k =>
    obtain ⟨g, hk, hf⟩ := core_some ha
    obtain ⟨hGk, hcore⟩ := hG k _ hk
    rw [ha] at lks
    simp only [Option.map_some, ptrO, ptrV] at lks
    have hgo := h2.grp _ (List.mem_of_getElem? hk)
    have lg' := hGk.lt
    by_cases h0 : offs = []
    · have er : replayN c co 114 s offs = none := by simp [replayN, hf, h0]
      have hl0 : offs.length = 0 := by rw [h0]; rfl
      rw [er]
      clear hO hoff er h0
      generalize offs.length = ol at *
      subst hl0
      go_enter Tryz.func152, Tryz.ntmps152
      go_wp2
      go_ret
      exact ⟨T, Step.refl _ _ _, rfl⟩
    have hl0 : 0 < offs.length := List.length_pos_iff.2 h0
    have er : Hid (replayN c co 114 s offs = (co.serveAll c g offs).map (co.put s)) := hide (by simp [replayN, hf, h0])
    have hgood := h1
    simp only [goodC, Bool.and_eq_true] at hgood
    have hcl : Hid (1 ≤ c.l ∧ c.l ≤ 60000) := hide (btw_true hgood.1)
    have hgoP : GOk c co (ps k).core := by rw [hcore]; exact hgo
    have hserve : Hid (co.serveAll c g offs = co.serveAll c (ps k).core (offs.drop 0)) := hide (by rw [hcore]; rfl)
    have hsS : ((fakeM c co).bodies.drop (fakeM c co).floor.toNat).map Value.string = co.bodies.map Value.string := by rw [fake_drop]
    have hnl : (co.bodies.map Value.string).length = co.bodies.length := by simp
    have hfl := h2.fl
    have hst := h2.stop
    have hsml := fake_len (c := c) hfl hst
    clear hgood h0
    obtain ⟨og, oc2, e⟩ := row_some hO hl0
    cases e
    go_enter Tryz.func152, Tryz.ntmps152
    go_wp2_with fail
    go_loopw [25] (fun u25 wr => ∃ (j : Nat) (T' : Nat → Tag) (p' : PG), j ≤ offs.length ∧ u25 = .int .i64 j ∧ Step (SG i k) w T wr T' ∧ GM wr T' i k (f k) p' ∧ GOk c co p'.core ∧ Hid (co.serveAll c g offs = co.serveAll c p'.core (offs.drop j))) (fun u25 _ => offs.length - (intOf u25).toNat)
    case atStart => exact ⟨0, T, ps k, Nat.zero_le _, rfl, Step.refl _ _ _, hGk, hgoP, hserve⟩
    case round =>
      obtain ⟨j, T', p', hj, rfl, hs, hG', hok, hsv⟩ := hrel
      have hB' := hB.step hs (nSG (by decide))
      have hS' := hS.step hs (nSG (by decide))
      have hO' := hO.step hs (nSG (by decide))
      have hset := hok.set
      have lb' := hB'.lt
      have lg2 := hG'.lt
      by_cases hlt : j < offs.length
      · obtain ⟨o, ho⟩ : ∃ o, offs[j]? = some o := ⟨_, List.getElem?_eq_getElem hlt⟩
        obtain ⟨o0, o1⟩ := hoff o (List.mem_of_getElem? ho)
        obtain ⟨n, rfl⟩ : ∃ n : Nat, o = n := ⟨o.toNat, by omega⟩
        have hcons := serveAll_cons (c := c) (q := co) (g := p'.core) ho
        have co0 := hO'.cell (j := j) (u := .int .i64 n) (by rw [List.getElem?_map, ho]; rfl)
        have lo := hO'.lt
        obtain ⟨ao, cap, rfl, hS2⟩ := id hS'
        have c5 := hB'.cell (j := 5) rfl
        have c6 := hB'.cell (j := 6) rfl
        simp only [List.getElem_toArray, List.getElem_cons_succ, List.getElem_cons_zero] at c5 c6
        have hhas := qhas_any b (f k) co.floor p'.start n ao _ cap wr lb' lg2 c5 c6 hG'.start hfl (by rw [hnl]; exact hst)
        have ehas : btw (n : Int) (max co.floor p'.start) (co.floor + ((co.bodies.map Value.string).length : Nat) - 1) = co.has p'.core n := by
          rw [hnl]
          rfl
        rw [ehas] at hhas
        go_wp2_with fail
        refine hhas.mono ?_
        rintro e1 w1 ⟨rfl, hb1⟩
        have g1 := step_below (fun _ => False) T' hb1
        cases hh : co.has p'.core n
        · have er2 : Hid (replayN c co 114 s offs = none) := hide (by rw [er.out, hsv.out, hcons, hh]; rfl)
          clear hcons
          go_wp2
          go_ret
          have hst := (hs.trans (g1.mono (fun _ h => h.elim))).mono (fun t h => sg_xt t h)
          exact ⟨T', hst, by rw [er2.out]; rfl⟩
        · have hdn := isDone_any i k (f k) p' n w1 T' (hG'.step g1 (fun _ _ h => h)) hset
          go_wp2_with fail
          refine hdn.mono ?_
          rintro e2 w2 ⟨rfl, hb2⟩
          have g2 := step_below (fun _ => False) T' hb2
          have s2 := (hs.trans (g1.mono (fun _ h => h.elim))).trans (g2.mono (fun _ h => h.elim))
          cases hd : hasB p'.done n
          · have hh2 := has_iff hh
            have hfirst : co.first p'.core = max co.floor p'.start := rfl
            have hsrv : Hid (co.serveAll c g offs = co.serveAll c (p'.core.serve c.d (co.body n) n) (offs.drop (j + 1))) := hide (by rw [hsv.out, hcons, hh, show p'.core.done = p'.done from rfl, hd]; rfl)
            have hok2 := gok_serve h2 hok hh hd
            have hB2 := (hB'.step g1 (fun h => h)).step g2 (fun h => h)
            have hS3 := (hS'.step g1 (fun h => h)).step g2 (fun h => h)
            have hG2 := (hG'.step g1 (fun _ _ h => h)).step g2 (fun _ _ h => h)
            have hsrve := serve_any i k b (f k) (fakeM c co) p' n (co.body n) _ _ _ _ w2 T' hB2 (by rw [hsS]; exact hS3) hG2 hsml hfl (by show co.floor ≤ n; omega) (fake_at hfl (by omega) hh2.2) (by show (0 : Int) ≤ 0; omega) (by show (0 : Int) ≤ _; omega) hcl.out.1 hcl.out.2 (by have := gok_few hok hst; show p'.core.dead.length ≤ 4000; omega) hset
            clear hcons
            go_wp2_with fail
            refine hsrve.mono ?_
            rintro e3 w3 ⟨rfl, T3, s3, hG3⟩
            go_wp2
            exact ⟨⟨j + 1, T3, _, by omega, by simp, s2.trans s3, hG3, by rw [core_serve]; exact hok2, hide (by rw [hsrv.out, core_serve]; rfl)⟩, by simp [intOf]; omega⟩
          · have er2 : Hid (replayN c co 114 s offs = none) := hide (by rw [er.out, hsv.out, hcons, hh, show p'.core.done = p'.done from rfl, hd]; rfl)
            clear hcons
            go_wp2
            go_ret
            exact ⟨T', s2.mono (fun t h => sg_xt t h), by rw [er2.out]; rfl⟩
      · have er2 : Hid (replayN c co 114 s offs = some (co.put s p'.core)) := hide (by rw [er.out, hsv.out, List.drop_of_length_le (by omega)]; rfl)
        go_wp2
        go_ret
        exact ⟨T', hs.mono (fun t h => sg_xt t h), by rw [er2.out]; exact ⟨rfl, cm_put h1 h2 hB hS hN hG hL hk hs hG' hok⟩⟩

end Go.Proofs.YtockkceclkcgbaaGreatDoor

/- keep, join and release over what a log tells. -/
namespace Go.Proofs.YtockkceclkcgbaaGreatDoor
open Go.RowKit Go.Maps

theorem ckeep_any (i b : Nat) (c : Conf) (co : Core) (vL : Value) (ls : Nat) (lg : Bs) (s : ByteArray) (w : World) (T : Nat → Tag) (h : CM w T i b c co vL ls lg) :
    Calls Tryz.prog 41 #[.pointer (some ⟨b, 0, none⟩), .string s] w fun e w' => ∃ v T', e = .returned (.tuple #[v, .int .i64 (co.keepE c s)]) ∧ Step (XT i) w T w' T' ∧ CM w' T' i b c (bif decide (co.keepE c s = 0) then co.keep s else co) vL ls lg := by
  obtain ⟨h1, h2, vB, mb, f, ps, hB, hS, hN, hG, hL⟩ := h
  have hfl := h2.fl
  have hst := h2.stop
  have hsp : co.stop = co.floor + co.bodies.length := rfl
  obtain ⟨n, hn⟩ : ∃ n : Nat, co.stop = n := ⟨co.stop.toNat, by omega⟩
  have eE : keepX c.k n co.bodies.length s.size = co.keepE c s := by
    unfold keepX Core.keepE
    rw [hn, show decide (400 ≤ n) = decide ((400 : Int) ≤ n) from decide_eq_decide.2 (by omega)]
  have hk := keep_any i b _ _ _ _ vB _ _ _ c.k co.floor n co.bodies s w T hB hS hfl (by omega) (by omega)
  rw [eE] at hk
  refine hk.mono ?_
  rintro e w' ⟨rfl, T', vB', s1, hB1, hS1⟩
  have hx : ∀ t, (t = Tag.q i 0 0 ∨ t = .q i 1 0) → XT i t := fun t h => by rcases h with rfl | rfl <;> exact ⟨rfl, rfl⟩
  have hq : ∀ r k, 2 ≤ r → ¬ (Tag.q i r k = .q i 0 0 ∨ Tag.q i r k = .q i 1 0) := fun r k hr => by simp; omega
  refine ⟨_, T', rfl, s1.mono hx, ?_⟩
  cases hd : decide (co.keepE c s = 0)
  · rw [hd] at hS1
    exact ⟨h1, h2, vB', mb, f, ps, hB1, hS1, hN.step s1 (hq _ _ (by decide)), fun k p hp => ⟨(hG k p hp).1.step s1 (fun r hr => hq _ _ (by omega)), (hG k p hp).2⟩, hL.step s1 (by simp)⟩
  · rw [hd] at hS1
    exact ⟨h1, cok_keep h2 (by simpa using hd), vB', mb, f, ps, hB1, hS1, hN.step s1 (hq _ _ (by decide)), fun k p hp => ⟨(hG k p hp).1.step s1 (fun r hr => hq _ _ (by omega)), (hG k p hp).2⟩, hL.step s1 (by simp)⟩

theorem cjoin_any (i b : Nat) (c : Conf) (co : Core) (vL : Value) (ls : Nat) (lg : Bs) (s : ByteArray) (fr : Int) (w : World) (T : Nat → Tag) (h : CM w T i b c co vL ls lg) :
    Calls Tryz.prog 107 #[.pointer (some ⟨b, 0, none⟩), .string s, .int .i64 fr, .int .i64 co.floor] w fun e w' => ∃ T', e = .returned (.int .i64 (co.joinE s fr co.floor)) ∧ Step (fun t => t = .q i 2 0) w T w' T' ∧ CM w' T' i b c (bif decide (co.joinE s fr co.floor = 0) then co.join s fr else co) vL ls lg := by
  obtain ⟨h1, h2, vB, mb, f, ps, hB, hS, hN, hG, hL⟩ := h
  have hfl := h2.fl
  have hst := h2.stop
  have hsp : co.stop = co.floor + co.bodies.length := rfl
  have hnl : co.names.length = co.gs.length := by simp [Core.names]
  obtain ⟨n, hn⟩ : ∃ n : Nat, co.stop = n := ⟨co.stop.toNat, by omega⟩
  have eE : joinX co.names s fr co.floor n = co.joinE s fr co.floor := by
    unfold joinX Core.joinE
    rw [hn, hnl]
  obtain ⟨ao, cap, rfl, hS2⟩ := id hS
  have hj := join_any i b _ _ _ _ _ _ _ co.floor ao _ cap mb co.names f s fr co.floor n w T hB hN (by rw [hnl]; exact h2.few) (fun s hs => (h2.name s hs).2) hfl (by simp; omega) (by omega)
  rw [eE] at hj
  refine hj.mono ?_
  rintro e w' ⟨rfl, (⟨hne, hb⟩ | ⟨he, gb, T', s1, hN1, hG1⟩)⟩
  · have g1 := step_below (fun _ => False) T hb
    refine ⟨T, rfl, g1.mono (fun _ h => h.elim), ?_⟩
    rw [show decide (co.joinE s fr co.floor = 0) = false from decide_eq_false hne]
    exact (CM.mk h1 h2 ⟨_, mb, f, ps, hB, hS, hN, hG, hL⟩ : CM w T i b c co vL ls lg).step g1 (fun _ _ _ h => h)
  · refine ⟨T', rfl, s1, ?_⟩
    rw [show decide (co.joinE s fr co.floor = 0) = true from decide_eq_true he]
    have hnm : (co.join s fr).names = co.names ++ [s] := by simp [Core.join, Core.names]
    refine ⟨h1, cok_join h2 he, _, mb, updN f co.names.length gb, updP ps co.names.length (newP fr), hB.step s1 (by simp), hS.step s1 (by simp), (by show NM w' T' _ mb (co.join s fr).names _; rw [hnm]; exact hN1), fun k p hp => ?_, hL.step s1 (by simp)⟩
    have hp' : (co.gs ++ [(s, CG.new fr)])[k]? = some p := hp
    by_cases hk : k = co.names.length
    · subst hk
      rw [hnl, List.getElem?_append_right (Nat.le_refl _)] at hp'
      simp at hp'
      subst hp'
      simp only [updN, updP, if_true]
      exact ⟨hG1, rfl⟩
    · have hkl : k < co.gs.length := by
        have := (List.getElem?_eq_some_iff.1 hp').1
        simp at this
        omega
      rw [List.getElem?_append_left hkl] at hp'
      simp only [updN, updP, if_neg hk]
      exact ⟨(hG k p hp').1.step s1 (fun r hr => by simp; omega), (hG k p hp').2⟩

theorem least_words {co : Core} {ps : Nat → PG} (hG : ∀ k p, co.gs[k]? = some p → (ps k).core = p.2) : leastX co.stop (fun k => gapI (ps k).done (ps k).start) co.names.length = co.least := by
  have key : ∀ n, n ≤ co.gs.length → leastX co.stop (fun k => gapI (ps k).done (ps k).start) n = (co.gs.take n).foldl (fun a p => min a (gapI p.2.done p.2.start)) co.stop := by
    intro n
    induction n with
    | zero => intro _; rfl
    | succ n ih =>
      intro hn
      have hx := hG n _ (List.getElem?_eq_getElem (by omega))
      rw [List.take_succ_eq_append_getElem (by omega), List.foldl_append, ← ih (by omega)]
      show min _ _ = min _ _
      rw [← hx]
      rfl
  rw [show co.names.length = co.gs.length by simp [Core.names], key _ (Nat.le_refl _), List.take_length]
  rfl

theorem crelease_any (i b : Nat) (c : Conf) (co : Core) (vL : Value) (ls : Nat) (lg : Bs) (w : World) (T : Nat → Tag) (h : CM w T i b c co vL ls lg) :
    Calls Tryz.prog 92 #[.pointer (some ⟨b, 0, none⟩)] w fun e w' => ∃ T', e = .returned (.int .i64 (co.gone c)) ∧ Step (XT i) w T w' T' ∧ CM w' T' i b c (co.release c) vL ls lg := by
  obtain ⟨h1, h2, vB, mb, f, ps, hB, hS, hN, hG, hL⟩ := h
  have hfl := h2.fl
  have hst := h2.stop
  have hsp : co.stop = co.floor + co.bodies.length := rfl
  have hnl : co.names.length = co.gs.length := by simp [Core.names]
  have hgood := h1
  simp only [goodC, Bool.and_eq_true] at hgood
  have hcs := btw_true hgood.2.2.1
  obtain ⟨n, hn⟩ : ∃ n : Nat, co.stop = n := ⟨co.stop.toNat, by omega⟩
  have hle := least_words (fun k p hk => (hG k p hk).2)
  have hr := release_any i b _ _ _ _ vB _ _ c.s co.floor n mb co.bodies co.names f ps w T hB hS hN h2.once (fun k hk => by
    have hk' : k < co.gs.length := by omega
    have hg := hG k _ (List.getElem?_eq_getElem hk')
    have ho := h2.grp _ (List.getElem_mem hk')
    rw [← hg.2] at ho
    have hs := ho.start
    exact ⟨hg.1, ho.set, hs.1, Int.le_trans hs.2 hst⟩) hfl (by omega) (by omega) hcs.1 hcs.2 (by rw [hnl]; exact h2.few)
  have e1 : toX c.s n (fun k => gapI (ps k).done (ps k).start) co.names.length = co.goTo c := by
    unfold toX Core.goTo
    rw [← hn, hle]
  have e2 : staysX c.s co.floor n (fun k => gapI (ps k).done (ps k).start) co.names.length = co.stays c := by
    unfold staysX Core.stays
    rw [e1, hnl]
  have e3 : goneX c.s co.floor n (fun k => gapI (ps k).done (ps k).start) co.names.length = co.gone c := by
    unfold goneX Core.gone
    rw [e1, e2]
  have e4 : floorX c.s co.floor n (fun k => gapI (ps k).done (ps k).start) co.names.length = (co.release c).floor := by
    unfold floorX Core.release
    rw [e1, e2]
    cases co.stays c <;> rfl
  have e5 : co.bodies.drop (co.gone c).toNat = (co.release c).bodies := by
    unfold Core.gone Core.release
    cases co.stays c <;> simp
  have e6 : (co.release c).gs = co.gs := by
    unfold Core.release
    cases co.stays c <;> rfl
  rw [e3, e4, e5] at hr
  refine hr.mono ?_
  rintro e w' ⟨rfl, T', vB', s1, hB1, hS1⟩
  have hx : ∀ t, (t = Tag.q i 0 0 ∨ t = .q i 1 0) → XT i t := fun t h => by rcases h with rfl | rfl <;> exact ⟨rfl, rfl⟩
  have hq : ∀ r k, 2 ≤ r → ¬ (Tag.q i r k = .q i 0 0 ∨ Tag.q i r k = .q i 1 0) := fun r k hr => by simp; omega
  refine ⟨T', rfl, s1.mono hx, h1, cok_release h2, vB', mb, f, ps, hB1, hS1, by rw [show (co.release c).names = co.names by unfold Core.names; rw [e6]]; exact hN.step s1 (hq _ _ (by decide)), fun k p hp => ?_, hL.step s1 (by simp)⟩
  rw [e6] at hp
  exact ⟨(hG k p hp).1.step s1 (fun r hr => hq _ _ (by omega)), (hG k p hp).2⟩

end Go.Proofs.YtockkceclkcgbaaGreatDoor

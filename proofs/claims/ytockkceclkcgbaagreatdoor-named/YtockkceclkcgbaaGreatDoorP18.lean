/- A group, read of a snapshot: loadGroup. -/
import Derived.Test.YtockkceclkcgbaaGreatDoorP17
import Derived.Test.YtockkceclkcgbaaGreatDoorP09
namespace Go.Proofs.YtockkceclkcgbaaGreatDoor
open Go.RowKit Go.Maps

/-- a queue to which a group of number K is being added, its block gb -/
structure LQ (w : World) (T : Nat → Tag) (i b : Nat) (c : Conf) (co : Core) (vL : Value) (ls : Nat) (lg : Bs) (vB : Value) (mb : Nat) (f : Nat → Nat) (ps : Nat → PG) (s : ByteArray) (gb : Nat) : Prop where
  blk : Blk w T (.q i 0 0) b #[.int .i64 c.l, .int .i64 c.d, .int .i64 c.s, .int .i64 c.k, .int .i64 0, .int .i64 co.floor, vB, .map (some mb), vL, .int .u32 ls] 105
  sub : Sub w T (.q i 1 0) vB (co.bodies.map .string)
  nm : NM w T (.q i 2 0) mb (co.names ++ [s]) (updN f co.names.length gb)
  gm : ∀ k p, co.gs[k]? = some p → GM w T i k (f k) (ps k) ∧ (ps k).core = p.2
  row : BRow w T (.q i 1 1) vL lg
/-- the blocks that are written then -/
def LT2 (i K : Nat) (t : Tag) : Prop := SG i K t ∨ t = rT i
theorem LQ.step {w w' : World} {T T' : Nat → Tag} {i b : Nat} {c : Conf} {co : Core} {vL : Value} {ls : Nat} {lg : Bs} {vB : Value} {mb : Nat} {f : Nat → Nat} {ps : Nat → PG} {s : ByteArray} {gb : Nat} (h : LQ w T i b c co vL ls lg vB mb f ps s gb) (hs : Step (LT2 i co.names.length) w T w' T') : LQ w' T' i b c co vL ls lg vB mb f ps s gb := by
  have n0 : ∀ r k, r < 3 → (r ≠ 0 ∨ k = 0) → ¬ LT2 i co.names.length (.q i r k) := fun r k hr hk h => by
    rcases h with ⟨r', h1, h2⟩ | h
    · simp at h2; omega
    · simp at h; omega
  refine ⟨h.blk.step hs (n0 _ _ (by decide) (.inr rfl)), h.sub.step hs (n0 _ _ (by decide) (.inl (by decide))), h.nm.step hs (n0 _ _ (by decide) (.inl (by decide))), fun k p hp => ⟨(h.gm k p hp).1.step hs (fun r hr h => ?_), (h.gm k p hp).2⟩, h.row.step hs (n0 _ _ (by decide) (.inl (by decide)))⟩
  have hk : k < co.names.length := by
    have := (List.getElem?_eq_some_iff.1 hp).1
    simp [Core.names]
    exact this
  rcases h with ⟨r', h1, h2⟩ | h
  · simp at h2; omega
  · simp at h; omega
theorem LQ.cm {w : World} {T : Nat → Tag} {i b : Nat} {c : Conf} {co : Core} {vL : Value} {ls : Nat} {lg : Bs} {vB : Value} {mb : Nat} {f : Nat → Nat} {ps : Nat → PG} {s : ByteArray} {gb : Nat} {p : PG} {st : Int} (h : LQ w T i b c co vL ls lg vB mb f ps s gb) (hc : goodC c = true) (ho : COk c co) (he : co.joinE s st 0 = 0) (hG : GM w T i co.names.length gb p) (hok : GOk c co p.core) :
    CM w T i b c { co with gs := co.gs ++ [(s, p.core)] } vL ls lg := by
  obtain ⟨e1, e2, e3, e4, e5⟩ := joinE_ok he
  have hnl : co.names.length = co.gs.length := by simp [Core.names]
  have hnm : ({ co with gs := co.gs ++ [(s, p.core)] } : Core).names = co.names ++ [s] := by simp [Core.names]
  refine ⟨hc, ⟨ho.d, ho.s, ho.k, ho.fl, ho.seg, ho.stop, ho.kept, ho.short, by simp; omega, ?_, fun x hx => ?_, fun q hq => ?_⟩, vB, mb, updN f co.names.length gb, updP ps co.names.length p, h.blk, h.sub, by rw [hnm]; exact h.nm, fun k q hq => ?_, h.row⟩
  · rw [hnm, List.nodup_append]
    refine ⟨ho.once, by simp, fun a ha b hb e => ?_⟩
    simp only [List.mem_singleton] at hb
    subst e
    rw [hb] at ha
    exact e2 ha
  · rw [hnm] at hx
    rcases List.mem_append.1 hx with hx | hx
    · exact ho.name x hx
    · simp at hx; rw [hx]; exact e1
  · rcases List.mem_append.1 hq with hq | hq
    · exact (ho.grp q hq).move rfl rfl
    · simp at hq
      subst hq
      exact hok.move rfl rfl
  · have hq' : (co.gs ++ [(s, p.core)])[k]? = some q := hq
    by_cases hk : k = co.names.length
    · subst hk
      rw [hnl, List.getElem?_append_right (Nat.le_refl _)] at hq'
      simp at hq'
      subst hq'
      simp only [updN, updP, if_true]
      exact ⟨hG, trivial⟩
    · have hkl : k < co.gs.length := by
        have := (List.getElem?_eq_some_iff.1 hq').1
        simp at this
        omega
      rw [List.getElem?_append_left hkl] at hq'
      simp only [updN, updP, if_neg hk]
      exact h.gm k q hq'

theorem loadTries_zero (d : Int) (o : Int) (g : CG) (r : Rd) : loadTries d 0 o g r = some (g, r) := rfl
theorem loadTries_none {d : Int} {n : Nat} {o : Int} {g : CG} {r : Rd} (h : g.setTries d o (r.num 1).1 = none) : loadTries d (n + 1) o g r = none := by simp [loadTries, h]
theorem loadTries_some {d : Int} {n : Nat} {o : Int} {g g' : CG} {r : Rd} (h : g.setTries d o (r.num 1).1 = some g') : loadTries d (n + 1) o g r = loadTries d n (o + 1) g' (r.num 1).2 := by simp [loadTries, h]
theorem lt2_xt {i K : Nat} (t : Tag) (h : LT2 i K t) : XT i t := by
  rcases h with h | rfl
  · exact sg_xt t h
  · exact ⟨rfl, rfl⟩

attribute [local go_sem] over_cell

set_option maxRecDepth 100000 in
set_option maxHeartbeats 4000000 in
theorem loadGroup_any (i b rb : Nat) (c : Conf) (co : Core) (vL : Value) (ls : Nat) (lg : Bs) (r : Rd) (cs : Array Value) (ty : TypeId) (w : World) (T : Nat → Tag) (h : CM w T i b c co vL ls lg) (hR : RdB w T (rT i) rb ty cs r) :
    Calls Tryz.prog 150 #[.pointer (some ⟨b, 0, none⟩), .pointer (some ⟨rb, 0, none⟩)] w fun e w' => ∃ T', Step (XT i) w T w' T' ∧
      repA (fun (x : Core × Rd) => CM w' T' i b c x.1 vL ls lg ∧ RdB w' T' (rT i) rb ty cs x.2) e (loadGroup c co r) := by
  obtain ⟨R, hRR⟩ : ∃ R, Hid (loadGroup c co r = R) := ⟨_, hide rfl⟩
  rw [hRR.out]
  have hst4 := h.ok.stop
  have hfl0 := h.ok.fl
  have hcok := h.ok
  have hgood := h.good
  have htx := text_any (rT i) rb ty cs r w T hR
  have hst16 := decN_small r.text.2 2
  go_enter Tryz.func150, Tryz.ntmps150
  go_wp2_with fail
  refine htx.mono ?_
  clear htx
  rintro e1 w1 ⟨rfl, s1, hR1⟩
  have hnu := num_any (rT i) rb ty cs r.text.2 w1 T hR1
  go_wp2_with fail
  refine hnu.mono ?_
  clear hnu
  rintro e2 w2 ⟨rfl, s2, hR2⟩
  have s02 := s1.trans s2
  have h2 := h.step s02 (fun r k hk hh => by simp at hh; omega)
  clear h hR hR1 s1 s2
  replace hRR : Hid (R = (bif decide (co.joinE (mkB r.text.1) (r.text.2.num 2).1 0 = 0) then
    match loadTries c.d (co.stop - co.first (startG co (r.text.2.num 2).1)).toNat (co.first (startG co (r.text.2.num 2).1)) (startG co (r.text.2.num 2).1) (r.text.2.num 2).2 with
    | none => none
    | some (g, r2) => match loadDeads c co (r2.num 2).1 g (r2.num 2).2 with
      | none => none
      | some (g', r3) => some ({ co with gs := co.gs ++ [(mkB r.text.1, g')] }, r3)
    else none)) := hide hRR.out.symm
  generalize mkB r.text.1 = s at *
  generalize (r.text.2.num 2).2 = r1 at *
  generalize (r.text.2.num 2).1 = st at *
  obtain ⟨_, _, vB, mb, f, ps, hB, hS, hN, hG, hL⟩ := h2
  have hsp : co.stop = co.floor + co.bodies.length := rfl
  have hnl : co.names.length = co.gs.length := by simp [Core.names]
  obtain ⟨n, hn⟩ : ∃ n : Nat, co.stop = n := ⟨co.stop.toNat, by omega⟩
  have eE : joinX co.names s st 0 n = co.joinE s st 0 := by
    unfold joinX Core.joinE
    rw [hn, hnl]
  obtain ⟨ao, cap, rfl, hS2⟩ := id hS
  have hj := join_any i b _ _ _ _ _ _ _ co.floor ao _ cap mb co.names f s st 0 n w2 T hB hN (by rw [hnl]; exact hcok.few) (fun s hs => (hcok.name s hs).2) hfl0 (by simp; omega) (by omega)
  rw [eE] at hj
  clear hS2
  go_wp2_with fail
  refine hj.mono ?_
  clear hj
  rintro e3 w3 ⟨rfl, (⟨hne, hb⟩ | ⟨he, gb, T3, s3, hN3, hG3⟩)⟩
  · have g3 := step_below (fun _ => False) T hb
    have er : Hid (R = none) := hide (by rw [hRR.out, decide_eq_false hne]; rfl)
    have s03 : Step (XT i) w T w3 T := (s02.mono (fun t h => by subst h; exact ⟨rfl, rfl⟩)).trans (g3.mono (fun _ h => h.elim))
    go_wp2
    go_ret
    exact ⟨T, s03, by rw [er.out]; rfl⟩
  · obtain ⟨e1, e2, e3, e4, e5⟩ := joinE_ok he
    rw [he]
    have s03 : Step (XT i) w T w3 T3 := (s02.mono (fun t h => by subst h; exact ⟨rfl, rfl⟩)).trans (s3.mono (fun t h => by subst h; exact ⟨rfl, rfl⟩))
    have Q3 : LQ w3 T3 i b c co vL ls lg (.slice ao (co.bodies.map Value.string).length cap) mb f ps s gb := ⟨hB.step s3 (by simp), hS.step s3 (by simp), hN3, fun k p hp => ⟨(hG k p hp).1.step s3 (fun r hr => by simp; omega), (hG k p hp).2⟩, hL.step s3 (by simp)⟩
    have hR3 := hR2.step s3 (by simp)
    have lks := Q3.nm.look (fun x hx => by
      rcases List.mem_append.1 hx with hx | hx
      · exact (hcok.name x hx).2
      · simp at hx; rw [hx]; exact e1.2) s
    have hix : idx s (co.names ++ [s]) = some co.names.length := by
      rw [idx_snoc, idx_none.2 e2]
      simp
    rw [hix] at lks
    simp only [Option.map_some, ptrO, ptrV, updN, if_true] at lks
    obtain ⟨gk1, gk2⟩ := gok_start hcok (st := st) (by omega) e5
    replace hRR : Hid (R = match loadTries c.d (co.stop - co.first (startG co st)).toNat (co.first (startG co st)) (startG co st) r1 with
      | none => none
      | some (g, r2) => match loadDeads c co (r2.num 2).1 g (r2.num 2).2 with
        | none => none
        | some (g', r3) => some ({ co with gs := co.gs ++ [(s, g')] }, r3)) := hide (by rw [hRR.out, decide_eq_true he]; rfl)
    clear hB hS hN hG hL hN3 hR2 s02 s3 hix
    -- what lies ahead of the floor is done
    have hfin : ∀ (hlt : (st : Int) < co.floor), Calls Tryz.prog 91 #[.pointer (some ⟨gb, 0, none⟩), .int .i64 st, .int .i64 (co.floor - 1)] w3 fun e w' => e = .returned (.tuple #[]) ∧ ∃ T', Step (SG i co.names.length) w3 T3 w' T' ∧ ∃ p, GM w' T' i co.names.length gb p ∧ p.core = startG co st := fun hlt => by
      obtain ⟨hi, hhi⟩ : ∃ hi : Nat, co.floor - 1 = hi := ⟨(co.floor - 1).toNat, by omega⟩
      rw [hhi]
      refine (finishR_any i co.names.length gb (newP st) st hi w3 T3 hG3 rfl (by omega) (by omega)).mono ?_
      rintro e w' ⟨rfl, T', s', hG'⟩
      refine ⟨rfl, T', s', _, hG', ?_⟩
      unfold startG
      rw [decide_eq_true hlt, hhi]
      rfl
    have c5 := Q3.blk.cell (j := 5) (v := .int .i64 co.floor) rfl
    have c7 := Q3.blk.cell (j := 7) (v := .map (some mb)) rfl
    have lb := Q3.blk.lt
    by_cases hlt : (st : Int) < co.floor
    · have hf3 := hfin hlt
      have hwr : IntKind.i64.wrap (co.floor - 1) = co.floor - 1 := by rw [IntWalk.i64_left, IntWalk.wrap64_in _ ⟨by omega, by omega⟩]
      clear hfin
      go_wp2_with fail
      refine hf3.mono ?_
      clear hf3
      rintro e4 w4 ⟨rfl, T4, s4, p4, hG4, hc4⟩
      have s34 : Step (LT2 i co.names.length) w3 T3 w4 T4 := s4.mono (fun _ h => .inl h)
      have hR4 := hR3.step s4 (by rintro ⟨r, hr, h⟩; simp at h; omega)
      have Q4 := Q3.step s34
      have s04 := s03.trans (s34.mono lt2_xt)
      clear Q3 hR3 hG3 s34 s4 s03 c5 c7 lb lks
      have c54 := Q4.blk.cell (j := 5) (v := .int .i64 co.floor) rfl
      have c64 := Q4.blk.cell (j := 6) rfl
      have lb4 := Q4.blk.lt
      have lg4 := hG4.lt
      have hst0 : p4.start = (startG co st).start := by rw [← hc4]; rfl
      have d04 := hG4.start
      have hfirst := qfirst_any b gb co.floor p4.start w4 lb4 lg4 c54 d04
      have efi : max co.floor p4.start = co.first (startG co st) := by rw [hst0]; rfl
      rw [efi] at hfirst
      rw [← hc4] at gk1 gk2 hRR hfirst
      go_wp2_with fail
      refine hfirst.mono ?_
      clear hfirst
      rintro e5 w5 ⟨rfl, hb5⟩
      have g5 := step_below (fun _ => False) T4 hb5
      have Q5 := Q4.step (g5.mono (fun _ h => h.elim))
      have hG5 := hG4.step g5 (fun _ _ h => h)
      have hR5 := hR4.step g5 (fun h => h)
      have s05 := s04.trans (g5.mono (fun _ h => h.elim))
      have hfr : 0 ≤ co.first p4.core ∧ co.first p4.core ≤ co.stop := by
        have := gk1.start
        unfold Core.first
        omega
      obtain ⟨o0, ho0⟩ : ∃ o0 : Nat, co.first p4.core = o0 := ⟨(co.first p4.core).toNat, by omega⟩
      rw [ho0] at gk2 hRR hfr
      rw [ho0]
      have hcs4 : p4.core.start = p4.start := rfl
      clear Q4 hG4 hR4 s04 c54 c64 lb4 lg4 d04 efi hst0 hc4 g5 hb5
      go_wp2_with fail
      go_loopw [8] (fun v wr => ∃ (o : Nat) (T' : Nat → Tag) (p : PG) (ro : Rd), o0 ≤ o ∧ (o : Int) ≤ co.stop ∧ v = .int .i64 o ∧ Step (XT i) w T wr T' ∧ LQ wr T' i b c co vL ls lg (.slice ao (co.bodies.map Value.string).length cap) mb f ps s gb ∧ GM wr T' i co.names.length gb p ∧ RdB wr T' (rT i) rb ty cs ro ∧ GOk c co p.core ∧ Hid ((∀ n, hasB p.core.done n = true → n < o) ∧ co.first p.core = o0) ∧ Hid (R = match loadTries c.d (co.stop - o).toNat o p.core ro with
            | none => none
            | some (g, r2) => match loadDeads c co (r2.num 2).1 g (r2.num 2).2 with
              | none => none
              | some (g', r3) => some ({ co with gs := co.gs ++ [(s, g')] }, r3))) (fun v _ => (co.stop - intOf v).toNat)
      case atStart => exact ⟨o0, T4, p4, r1, Nat.le_refl _, hfr.2, rfl, s05, Q5, hG5, hR5, gk1, hide ⟨gk2, ho0⟩, hRR⟩
      case round =>
        obtain ⟨o, T6, p6, r6, ho1, ho2, rfl, s6, Q6, hG6, hR6, gk6, hdn6, hR1⟩ := hrel
        clear Q5 hG5 hR5 s05 hRR gk1 gk2 hfr ho0 hcs4
        have c56 := Q6.blk.cell (j := 5) (v := .int .i64 co.floor) rfl
        have c66 := Q6.blk.cell (j := 6) (v := .slice ao (co.bodies.map Value.string).length cap) rfl
        rw [List.length_map] at c66
        have lb6 := Q6.blk.lt
        have hend := qend_any b co.floor ao co.bodies.length cap wr lb6 c56 c66 hfl0 (by omega) (by omega)
        rw [show co.floor + (co.bodies.length : Int) = co.stop from rfl] at hend
        go_wp2_with fail
        refine hend.mono ?_
        clear hend c56 c66 lb6
        rintro e7 w7 ⟨rfl, hb7⟩
        have g7 := step_below (fun _ => False) T6 hb7
        have Q7 := Q6.step (g7.mono (fun _ h => h.elim))
        have hG7 := hG6.step g7 (fun _ _ h => h)
        have hR7 := hR6.step g7 (fun h => h)
        have s7 := s6.trans (g7.mono (fun _ h => h.elim))
        clear Q6 hG6 hR6 s6 g7 hb7
        by_cases hlt7 : (o : Int) < co.stop
        · have gd := step_below (fun _ => False) T6 (Below.refl w7.heap.size w7).drew
          have Q7d := Q7.step (gd.mono (fun _ h => h.elim))
          have hG7d := hG7.step gd (fun _ _ h => h)
          have hR7d := hR7.step gd (fun h => h)
          have s7d := s7.trans (gd.mono (fun _ h => h.elim))
          have hsm := small_any (rT i) rb ty cs r6 w7.drew T6 hR7d
          have ht8 : (r6.num 1).1 < 256 := decN_small r6 1
          have hset := fun (w8 : World) (h : GM w8 T6 i co.names.length gb p6) => setTries_any i co.names.length gb p6 o (r6.num 1).1 c.d w8 T6 h gk6.set (by omega) ht8
          have c17 := Q7.blk.cell (j := 1) (v := .int .i64 c.d) rfl
          have lb7 := Q7.blk.lt
          obtain ⟨hdn6a, hdn6b⟩ := hdn6.out
          have hno : hasB p6.core.done o = false := by
            cases hh : hasB p6.core.done o
            · rfl
            · have := hdn6a o hh; omega
          have hsub : (co.stop - o).toNat = (co.stop - ((o + 1 : Nat) : Int)).toNat + 1 := by omega
          cases hse : p6.core.setTries c.d o (r6.num 1).1 with
          | none =>
            have er : Hid (R = none) := hide (by rw [hR1.out, hsub, loadTries_none hse])
            rw [hse] at hset
            clear hR1 gd Q7 hG7 hR7 s7 hdn6a hdn6b hsub
            go_wp2_with fail
            go_region_held3 (fun w' => w'.cell? ⟨b, 1, none⟩ = some (.int .i64 c.d)) (go_keep) (first
              | (go_at_call 151; refine hsm.mono ?_; clear hsm; rintro e8 w8 ⟨rfl, s8, hR8⟩; have Q8 := Q7d.step (s8.mono (fun _ h => .inr h)); have k1 := Q8.blk.cell (j := 1) (v := .int .i64 c.d) rfl; have k2 := Q8.blk.lt; have hG8 := hG7d.step s8 (fun r hr h => by simp at h; omega))
              | (go_at_call 158; refine (hset _ hG8).mono ?_; clear hset; rintro e9 w9 ⟨T9, s9, rfl⟩; have Q9 := Q8.step (s9.mono (fun _ h => .inl h)); have k3 := Q9.blk.cell (j := 1) (v := .int .i64 c.d) rfl; have k4 := Q9.blk.lt))
            all_goals
              have s09 := (s7d.trans (s8.mono (fun t h => by subst h; exact ⟨rfl, rfl⟩))).trans (s9.mono sg_xt)
              go_wp2
              go_ret
              exact ⟨T9, s09, by rw [er.out]; rfl⟩
          | some g' =>
            have hR9 : Hid (R = _) := hide (by rw [hR1.out, hsub, loadTries_some hse])
            rw [hse] at hset
            have gk9 := gok_tries gk6 hfl0 hst4 (by rw [hdn6b]; omega) hlt7 hno hse
            have hdn9 := done_tries gk6 (by omega) (by omega) hdn6a hse
            have hfi9 : co.first g' = o0 := by rw [← hdn6b]; unfold Core.first; rw [hdn9.2]
            have hdn9' : Hid ((∀ n, hasB g'.done n = true → n < ((o + 1 : Nat) : Int)) ∧ co.first g' = o0) := hide ⟨fun n hn => by have := hdn9.1 n hn; omega, hfi9⟩
            clear hR1 gd Q7 hG7 hR7 s7 hdn6a hdn6b hsub hdn9 hfi9
            go_wp2_with fail
            go_region_held3 (fun w' => w'.cell? ⟨b, 1, none⟩ = some (.int .i64 c.d)) (go_keep) (first
              | (go_at_call 151; refine hsm.mono ?_; clear hsm; rintro e8 w8 ⟨rfl, s8, hR8⟩; have Q8 := Q7d.step (s8.mono (fun _ h => .inr h)); have k1 := Q8.blk.cell (j := 1) (v := .int .i64 c.d) rfl; have k2 := Q8.blk.lt; have hG8 := hG7d.step s8 (fun r hr h => by simp at h; omega))
              | (go_at_call 158; refine (hset _ hG8).mono ?_; clear hset; rintro e9 w9 ⟨T9, s9, rfl, p9, hG9, hc9⟩; have Q9 := Q8.step (s9.mono (fun _ h => .inl h)); have k3 := Q9.blk.cell (j := 1) (v := .int .i64 c.d) rfl; have k4 := Q9.blk.lt))
            all_goals
              have s09 := (s7d.trans (s8.mono (fun t h => by subst h; exact ⟨rfl, rfl⟩))).trans (s9.mono sg_xt)
              have hR10 := hR8.step s9 (by rintro ⟨r, hr, h⟩; simp at h; omega)
              subst hc9
              have P10 := hide (And.intro s09 (And.intro Q9 (And.intro hG9 (And.intro hR10 (And.intro gk9 (And.intro hdn9' hR9))))))
              clear s09 Q9 hG9 hR10 gk9 hdn9' hR9 Q8 hG8 hR8 Q7d hG7d hR7d s7d s8 s9
              go_wp2
              exact ⟨⟨o + 1, T9, p9, _, by omega, by omega, by simp, P10.out.1, P10.out.2.1, P10.out.2.2.1, P10.out.2.2.2.1, P10.out.2.2.2.2.1, P10.out.2.2.2.2.2.1, P10.out.2.2.2.2.2.2⟩, by simp [intOf]; omega⟩
        · have hz : (co.stop - (o : Int)).toNat = 0 := by omega
          replace hR1 : Hid (R = match loadDeads c co (r6.num 2).1 p6.core (r6.num 2).2 with
              | none => none
              | some (g', r3) => some ({ co with gs := co.gs ++ [(s, g')] }, r3)) := hide (by rw [hR1.out, hz, loadTries_zero])
          have hnu := num_any (rT i) rb ty cs r6 w7 T6 hR7
          have hn2 := decN_small r6 2
          clear hz hdn6
          go_wp2_with fail
          refine hnu.mono ?_
          clear hnu
          rintro e8 w8 ⟨rfl, s8, hR8⟩
          have Q8 := Q7.step (s8.mono (fun _ h => .inr h))
          have hG8 := hG7.step s8 (fun r hr h => by simp at h; omega)
          have s08 := s7.trans (s8.mono (fun t h => by subst h; exact ⟨rfl, rfl⟩))
          clear Q7 hG7 hR7 s7 s8
          generalize (r6.num 2).2 = r8 at *
          generalize (r6.num 2).1 = n2 at *
          go_wp2_with fail
          go_loopw [60] (fun v wr => ∃ (j : Nat) (T' : Nat → Tag) (p : PG) (rj : Rd), j ≤ n2 ∧ v = .int .i64 j ∧ Step (XT i) w T wr T' ∧ LQ wr T' i b c co vL ls lg (.slice ao (co.bodies.map Value.string).length cap) mb f ps s gb ∧ GM wr T' i co.names.length gb p ∧ RdB wr T' (rT i) rb ty cs rj ∧ GOk c co p.core ∧ Hid (R = match loadDeads c co (n2 - j) p.core rj with
                | none => none
                | some (g', r3) => some ({ co with gs := co.gs ++ [(s, g')] }, r3))) (fun v _ => n2 - (intOf v).toNat)
          case atStart => exact ⟨0, T6, p6, r8, Nat.zero_le _, rfl, s08, Q8, hG8, hR8, gk6, hR1⟩
          case round =>
            obtain ⟨j, T9, p9, r9, hj, rfl, s9, Q9, hG9, hR9, gk9, hRj⟩ := hrel
            clear Q8 hG8 hR8 gk6 hR1 s08
            by_cases hjl : j < n2
            · have hld := loadDead_any i co.names.length b gb rb c co p9 r9 cs ty _ _ _ _ wr T9 Q9.blk Q9.sub hG9 hR9 gk9 hfl0 hst4
              have hsub : n2 - j = (n2 - (j + 1)) + 1 := by omega
              have hgd := fun h => gok_dead (o := ((r9.num 2).1 : Int)) (s := mkB (r9.num 2).2.text.1) gk9 h
              rw [hsub] at hRj
              unfold loadDeads at hRj
              cases hdo : deadOk co p9.core (r9.num 2).1 (mkB (r9.num 2).2.text.1)
              · rw [hdo] at hld hRj
                replace hRj : Hid (R = none) := hRj
                clear hgd
                go_wp2_with fail
                refine hld.mono ?_
                clear hld
                rintro e10 w10 ⟨T10, s10, rfl⟩
                have s010 := s9.trans (s10.mono (fun t h => lt2_xt t h))
                go_wp2
                go_ret
                exact ⟨T10, s010, by rw [hRj.out]; rfl⟩
              · rw [hdo] at hld hRj
                have gk10 := hgd hdo
                clear hgd
                replace hRj := hide hRj.out
                go_wp2_with fail
                refine hld.mono ?_
                clear hld
                rintro e10 w10 ⟨T10, s10, rfl, ⟨p10, hG10, hc10⟩, hR10⟩
                replace hc10 : p10.core = { p9.core with dead := p9.core.dead ++ [⟨(r9.num 2).1, c.d, mkB (r9.num 2).2.text.1⟩] } := hc10
                rw [← hc10] at gk10
                have Q10 := Q9.step s10
                have s010 := s9.trans (s10.mono (fun t h => lt2_xt t h))
                simp only [cond_true] at hRj
                rw [← hc10] at hRj
                have P10 := hide (And.intro s010 (And.intro Q10 (And.intro hG10 (And.intro hR10 (And.intro gk10 hRj)))))
                clear s010 Q10 hG10 hR10 gk10 hRj Q9 hG9 hR9 gk9 s9 s10 hsub
                go_wp2
                exact ⟨⟨j + 1, T10, p10, _, by omega, by simp, P10.out.1, P10.out.2.1, P10.out.2.2.1, P10.out.2.2.2.1, P10.out.2.2.2.2.1, P10.out.2.2.2.2.2⟩, by simp [intOf]; omega⟩
            · have hz : n2 - j = 0 := by omega
              have hRf : Hid (R = some ({ co with gs := co.gs ++ [(s, p9.core)] }, r9)) := hide (by rw [hRj.out, hz]; rfl)
              have hCM := Q9.cm hgood hcok he hG9 gk9
              clear hRj Q9 hG9 gk9 hz
              go_wp2
              go_ret
              exact ⟨T9, s9, by rw [hRf.out]; exact ⟨rfl, hCM, hR9⟩⟩
    · have hc4 : (newP st).core = startG co st := by unfold startG; rw [decide_eq_false hlt]; rfl
      have hG4 := hG3
      have hR4 := hR3
      have Q4 := Q3
      have s04 := s03
      have hd0 : decide ((st : Int) < co.floor) = false := decide_eq_false hlt
      clear hfin Q3 hR3 hG3 s03
      generalize hpp : newP st = p4 at *
      generalize hww : w3 = w4 at *
      generalize htt : T3 = T4 at *
      clear hpp hww htt
      have c54 := Q4.blk.cell (j := 5) (v := .int .i64 co.floor) rfl
      have c64 := Q4.blk.cell (j := 6) rfl
      have lb4 := Q4.blk.lt
      have lg4 := hG4.lt
      have hst0 : p4.start = (startG co st).start := by rw [← hc4]; rfl
      have d04 := hG4.start
      have hfirst := qfirst_any b gb co.floor p4.start w4 lb4 lg4 c54 d04
      have efi : max co.floor p4.start = co.first (startG co st) := by rw [hst0]; rfl
      rw [efi] at hfirst
      rw [← hc4] at gk1 gk2 hRR hfirst
      go_wp2_with fail
      refine hfirst.mono ?_
      clear hfirst
      rintro e5 w5 ⟨rfl, hb5⟩
      have g5 := step_below (fun _ => False) T4 hb5
      have Q5 := Q4.step (g5.mono (fun _ h => h.elim))
      have hG5 := hG4.step g5 (fun _ _ h => h)
      have hR5 := hR4.step g5 (fun h => h)
      have s05 := s04.trans (g5.mono (fun _ h => h.elim))
      have hfr : 0 ≤ co.first p4.core ∧ co.first p4.core ≤ co.stop := by
        have := gk1.start
        unfold Core.first
        omega
      obtain ⟨o0, ho0⟩ : ∃ o0 : Nat, co.first p4.core = o0 := ⟨(co.first p4.core).toNat, by omega⟩
      rw [ho0] at gk2 hRR hfr
      rw [ho0]
      have hcs4 : p4.core.start = p4.start := rfl
      clear Q4 hG4 hR4 s04 c54 c64 lb4 lg4 d04 efi hst0 hc4 g5 hb5
      go_wp2_with fail
      go_loopw [8] (fun v wr => ∃ (o : Nat) (T' : Nat → Tag) (p : PG) (ro : Rd), o0 ≤ o ∧ (o : Int) ≤ co.stop ∧ v = .int .i64 o ∧ Step (XT i) w T wr T' ∧ LQ wr T' i b c co vL ls lg (.slice ao (co.bodies.map Value.string).length cap) mb f ps s gb ∧ GM wr T' i co.names.length gb p ∧ RdB wr T' (rT i) rb ty cs ro ∧ GOk c co p.core ∧ Hid ((∀ n, hasB p.core.done n = true → n < o) ∧ co.first p.core = o0) ∧ Hid (R = match loadTries c.d (co.stop - o).toNat o p.core ro with
            | none => none
            | some (g, r2) => match loadDeads c co (r2.num 2).1 g (r2.num 2).2 with
              | none => none
              | some (g', r3) => some ({ co with gs := co.gs ++ [(s, g')] }, r3))) (fun v _ => (co.stop - intOf v).toNat)
      case atStart => exact ⟨o0, T4, p4, r1, Nat.le_refl _, hfr.2, rfl, s05, Q5, hG5, hR5, gk1, hide ⟨gk2, ho0⟩, hRR⟩
      case round =>
        obtain ⟨o, T6, p6, r6, ho1, ho2, rfl, s6, Q6, hG6, hR6, gk6, hdn6, hR1⟩ := hrel
        clear Q5 hG5 hR5 s05 hRR gk1 gk2 hfr ho0 hcs4
        have c56 := Q6.blk.cell (j := 5) (v := .int .i64 co.floor) rfl
        have c66 := Q6.blk.cell (j := 6) (v := .slice ao (co.bodies.map Value.string).length cap) rfl
        rw [List.length_map] at c66
        have lb6 := Q6.blk.lt
        have hend := qend_any b co.floor ao co.bodies.length cap wr lb6 c56 c66 hfl0 (by omega) (by omega)
        rw [show co.floor + (co.bodies.length : Int) = co.stop from rfl] at hend
        go_wp2_with fail
        refine hend.mono ?_
        clear hend c56 c66 lb6
        rintro e7 w7 ⟨rfl, hb7⟩
        have g7 := step_below (fun _ => False) T6 hb7
        have Q7 := Q6.step (g7.mono (fun _ h => h.elim))
        have hG7 := hG6.step g7 (fun _ _ h => h)
        have hR7 := hR6.step g7 (fun h => h)
        have s7 := s6.trans (g7.mono (fun _ h => h.elim))
        clear Q6 hG6 hR6 s6 g7 hb7
        by_cases hlt7 : (o : Int) < co.stop
        · have gd := step_below (fun _ => False) T6 (Below.refl w7.heap.size w7).drew
          have Q7d := Q7.step (gd.mono (fun _ h => h.elim))
          have hG7d := hG7.step gd (fun _ _ h => h)
          have hR7d := hR7.step gd (fun h => h)
          have s7d := s7.trans (gd.mono (fun _ h => h.elim))
          have hsm := small_any (rT i) rb ty cs r6 w7.drew T6 hR7d
          have ht8 : (r6.num 1).1 < 256 := decN_small r6 1
          have hset := fun (w8 : World) (h : GM w8 T6 i co.names.length gb p6) => setTries_any i co.names.length gb p6 o (r6.num 1).1 c.d w8 T6 h gk6.set (by omega) ht8
          have c17 := Q7.blk.cell (j := 1) (v := .int .i64 c.d) rfl
          have lb7 := Q7.blk.lt
          obtain ⟨hdn6a, hdn6b⟩ := hdn6.out
          have hno : hasB p6.core.done o = false := by
            cases hh : hasB p6.core.done o
            · rfl
            · have := hdn6a o hh; omega
          have hsub : (co.stop - o).toNat = (co.stop - ((o + 1 : Nat) : Int)).toNat + 1 := by omega
          cases hse : p6.core.setTries c.d o (r6.num 1).1 with
          | none =>
            have er : Hid (R = none) := hide (by rw [hR1.out, hsub, loadTries_none hse])
            rw [hse] at hset
            clear hR1 gd Q7 hG7 hR7 s7 hdn6a hdn6b hsub
            go_wp2_with fail
            go_region_held3 (fun w' => w'.cell? ⟨b, 1, none⟩ = some (.int .i64 c.d)) (go_keep) (first
              | (go_at_call 151; refine hsm.mono ?_; clear hsm; rintro e8 w8 ⟨rfl, s8, hR8⟩; have Q8 := Q7d.step (s8.mono (fun _ h => .inr h)); have k1 := Q8.blk.cell (j := 1) (v := .int .i64 c.d) rfl; have k2 := Q8.blk.lt; have hG8 := hG7d.step s8 (fun r hr h => by simp at h; omega))
              | (go_at_call 158; refine (hset _ hG8).mono ?_; clear hset; rintro e9 w9 ⟨T9, s9, rfl⟩; have Q9 := Q8.step (s9.mono (fun _ h => .inl h)); have k3 := Q9.blk.cell (j := 1) (v := .int .i64 c.d) rfl; have k4 := Q9.blk.lt))
            all_goals
              have s09 := (s7d.trans (s8.mono (fun t h => by subst h; exact ⟨rfl, rfl⟩))).trans (s9.mono sg_xt)
              go_wp2
              go_ret
              exact ⟨T9, s09, by rw [er.out]; rfl⟩
          | some g' =>
            have hR9 : Hid (R = _) := hide (by rw [hR1.out, hsub, loadTries_some hse])
            rw [hse] at hset
            have gk9 := gok_tries gk6 hfl0 hst4 (by rw [hdn6b]; omega) hlt7 hno hse
            have hdn9 := done_tries gk6 (by omega) (by omega) hdn6a hse
            have hfi9 : co.first g' = o0 := by rw [← hdn6b]; unfold Core.first; rw [hdn9.2]
            have hdn9' : Hid ((∀ n, hasB g'.done n = true → n < ((o + 1 : Nat) : Int)) ∧ co.first g' = o0) := hide ⟨fun n hn => by have := hdn9.1 n hn; omega, hfi9⟩
            clear hR1 gd Q7 hG7 hR7 s7 hdn6a hdn6b hsub hdn9 hfi9
            go_wp2_with fail
            go_region_held3 (fun w' => w'.cell? ⟨b, 1, none⟩ = some (.int .i64 c.d)) (go_keep) (first
              | (go_at_call 151; refine hsm.mono ?_; clear hsm; rintro e8 w8 ⟨rfl, s8, hR8⟩; have Q8 := Q7d.step (s8.mono (fun _ h => .inr h)); have k1 := Q8.blk.cell (j := 1) (v := .int .i64 c.d) rfl; have k2 := Q8.blk.lt; have hG8 := hG7d.step s8 (fun r hr h => by simp at h; omega))
              | (go_at_call 158; refine (hset _ hG8).mono ?_; clear hset; rintro e9 w9 ⟨T9, s9, rfl, p9, hG9, hc9⟩; have Q9 := Q8.step (s9.mono (fun _ h => .inl h)); have k3 := Q9.blk.cell (j := 1) (v := .int .i64 c.d) rfl; have k4 := Q9.blk.lt))
            all_goals
              have s09 := (s7d.trans (s8.mono (fun t h => by subst h; exact ⟨rfl, rfl⟩))).trans (s9.mono sg_xt)
              have hR10 := hR8.step s9 (by rintro ⟨r, hr, h⟩; simp at h; omega)
              subst hc9
              have P10 := hide (And.intro s09 (And.intro Q9 (And.intro hG9 (And.intro hR10 (And.intro gk9 (And.intro hdn9' hR9))))))
              clear s09 Q9 hG9 hR10 gk9 hdn9' hR9 Q8 hG8 hR8 Q7d hG7d hR7d s7d s8 s9
              go_wp2
              exact ⟨⟨o + 1, T9, p9, _, by omega, by omega, by simp, P10.out.1, P10.out.2.1, P10.out.2.2.1, P10.out.2.2.2.1, P10.out.2.2.2.2.1, P10.out.2.2.2.2.2.1, P10.out.2.2.2.2.2.2⟩, by simp [intOf]; omega⟩
        · have hz : (co.stop - (o : Int)).toNat = 0 := by omega
          replace hR1 : Hid (R = match loadDeads c co (r6.num 2).1 p6.core (r6.num 2).2 with
              | none => none
              | some (g', r3) => some ({ co with gs := co.gs ++ [(s, g')] }, r3)) := hide (by rw [hR1.out, hz, loadTries_zero])
          have hnu := num_any (rT i) rb ty cs r6 w7 T6 hR7
          have hn2 := decN_small r6 2
          clear hz hdn6
          go_wp2_with fail
          refine hnu.mono ?_
          clear hnu
          rintro e8 w8 ⟨rfl, s8, hR8⟩
          have Q8 := Q7.step (s8.mono (fun _ h => .inr h))
          have hG8 := hG7.step s8 (fun r hr h => by simp at h; omega)
          have s08 := s7.trans (s8.mono (fun t h => by subst h; exact ⟨rfl, rfl⟩))
          clear Q7 hG7 hR7 s7 s8
          generalize (r6.num 2).2 = r8 at *
          generalize (r6.num 2).1 = n2 at *
          go_wp2_with fail
          go_loopw [60] (fun v wr => ∃ (j : Nat) (T' : Nat → Tag) (p : PG) (rj : Rd), j ≤ n2 ∧ v = .int .i64 j ∧ Step (XT i) w T wr T' ∧ LQ wr T' i b c co vL ls lg (.slice ao (co.bodies.map Value.string).length cap) mb f ps s gb ∧ GM wr T' i co.names.length gb p ∧ RdB wr T' (rT i) rb ty cs rj ∧ GOk c co p.core ∧ Hid (R = match loadDeads c co (n2 - j) p.core rj with
                | none => none
                | some (g', r3) => some ({ co with gs := co.gs ++ [(s, g')] }, r3))) (fun v _ => n2 - (intOf v).toNat)
          case atStart => exact ⟨0, T6, p6, r8, Nat.zero_le _, rfl, s08, Q8, hG8, hR8, gk6, hR1⟩
          case round =>
            obtain ⟨j, T9, p9, r9, hj, rfl, s9, Q9, hG9, hR9, gk9, hRj⟩ := hrel
            clear Q8 hG8 hR8 gk6 hR1 s08
            by_cases hjl : j < n2
            · have hld := loadDead_any i co.names.length b gb rb c co p9 r9 cs ty _ _ _ _ wr T9 Q9.blk Q9.sub hG9 hR9 gk9 hfl0 hst4
              have hsub : n2 - j = (n2 - (j + 1)) + 1 := by omega
              have hgd := fun h => gok_dead (o := ((r9.num 2).1 : Int)) (s := mkB (r9.num 2).2.text.1) gk9 h
              rw [hsub] at hRj
              unfold loadDeads at hRj
              cases hdo : deadOk co p9.core (r9.num 2).1 (mkB (r9.num 2).2.text.1)
              · rw [hdo] at hld hRj
                replace hRj : Hid (R = none) := hRj
                clear hgd
                go_wp2_with fail
                refine hld.mono ?_
                clear hld
                rintro e10 w10 ⟨T10, s10, rfl⟩
                have s010 := s9.trans (s10.mono (fun t h => lt2_xt t h))
                go_wp2
                go_ret
                exact ⟨T10, s010, by rw [hRj.out]; rfl⟩
              · rw [hdo] at hld hRj
                have gk10 := hgd hdo
                clear hgd
                replace hRj := hide hRj.out
                go_wp2_with fail
                refine hld.mono ?_
                clear hld
                rintro e10 w10 ⟨T10, s10, rfl, ⟨p10, hG10, hc10⟩, hR10⟩
                replace hc10 : p10.core = { p9.core with dead := p9.core.dead ++ [⟨(r9.num 2).1, c.d, mkB (r9.num 2).2.text.1⟩] } := hc10
                rw [← hc10] at gk10
                have Q10 := Q9.step s10
                have s010 := s9.trans (s10.mono (fun t h => lt2_xt t h))
                simp only [cond_true] at hRj
                rw [← hc10] at hRj
                have P10 := hide (And.intro s010 (And.intro Q10 (And.intro hG10 (And.intro hR10 (And.intro gk10 hRj)))))
                clear s010 Q10 hG10 hR10 gk10 hRj Q9 hG9 hR9 gk9 s9 s10 hsub
                go_wp2
                exact ⟨⟨j + 1, T10, p10, _, by omega, by simp, P10.out.1, P10.out.2.1, P10.out.2.2.1, P10.out.2.2.2.1, P10.out.2.2.2.2.1, P10.out.2.2.2.2.2⟩, by simp [intOf]; omega⟩
            · have hz : n2 - j = 0 := by omega
              have hRf : Hid (R = some ({ co with gs := co.gs ++ [(s, p9.core)] }, r9)) := hide (by rw [hRj.out, hz]; rfl)
              have hCM := Q9.cm hgood hcok he hG9 gk9
              clear hRj Q9 hG9 gk9 hz
              go_wp2
              go_ret
              exact ⟨T9, s9, by rw [hRf.out]; exact ⟨rfl, hCM, hR9⟩⟩

end Go.Proofs.YtockkceclkcgbaaGreatDoor

/- A snapshot, read: load; so Open of any text is known. -/
namespace Go.Proofs.YtockkceclkcgbaaGreatDoor
open Go.RowKit Go.Maps

attribute [local go_sem] over_cell

theorem ckeep_fine (i b : Nat) (c : Conf) (co : Core) (vL : Value) (ls : Nat) (lg : Bs) (s : ByteArray) (w : World) (T : Nat → Tag) (h : CM w T i b c co vL ls lg) :
    Calls Tryz.prog 41 #[.pointer (some ⟨b, 0, none⟩), .string s] w fun e w' => ∃ v T', e = .returned (.tuple #[v, .int .i64 (co.keepE c s)]) ∧ Step (fun t => t = .q i 0 0 ∨ t = .q i 1 0) w T w' T' ∧ CM w' T' i b c (bif decide (co.keepE c s = 0) then co.keep s else co) vL ls lg := by
  obtain ⟨h1, h2, vB, mb, f, ps, hB, hS, hN, hG, hL⟩ := h
  have hfl := h2.fl
  have hst := h2.stop
  have hsp : co.stop = co.floor + co.bodies.length := rfl
  obtain ⟨n, hn⟩ : ∃ n : Nat, co.stop = n := ⟨co.stop.toNat, by omega⟩
  have eE : keepX c.k n co.bodies.length s.size = co.keepE c s := by
    unfold keepX Core.keepE
    rw [hn, show decide (400 ≤ n) = decide ((400 : Int) ≤ n) from decide_eq_decide.2 (by omega)]
  have hk := keep_any i b _ _ _ _ vB _ _ _ c.k co.floor n co.bodies s w T hB hS hfl (by omega) (by omega)
  rw [eE] at hk
  refine hk.mono ?_
  rintro e w' ⟨rfl, T', vB', s1, hB1, hS1⟩
  have hq : ∀ r k, 2 ≤ r → ¬ (Tag.q i r k = .q i 0 0 ∨ Tag.q i r k = .q i 1 0) := fun r k hr => by simp; omega
  refine ⟨_, T', rfl, s1, ?_⟩
  cases hd : decide (co.keepE c s = 0)
  · rw [hd] at hS1
    exact ⟨h1, h2, vB', mb, f, ps, hB1, hS1, hN.step s1 (hq _ _ (by decide)), fun k p hp => ⟨(hG k p hp).1.step s1 (fun r hr => hq _ _ (by omega)), (hG k p hp).2⟩, hL.step s1 (by simp)⟩
  · rw [hd] at hS1
    exact ⟨h1, cok_keep h2 (by simpa using hd), vB', mb, f, ps, hB1, hS1, hN.step s1 (hq _ _ (by decide)), fun k p hp => ⟨(hG k p hp).1.step s1 (fun r hr => hq _ _ (by omega)), (hG k p hp).2⟩, hL.step s1 (by simp)⟩

theorem loadBodies_zero (c : Conf) (q : Core) (r : Rd) : loadBodies c 0 q r = some (q, r) := rfl
theorem loadGroups_zero (c : Conf) (q : Core) (r : Rd) : loadGroups c 0 q r = some (q, r) := rfl
theorem loadGroups_none {c : Conf} {n : Nat} {q : Core} {r : Rd} (h : loadGroup c q r = none) : loadGroups c (n + 1) q r = none := by simp [loadGroups, h]
theorem loadGroups_some {c : Conf} {n : Nat} {q q' : Core} {r r' : Rd} (h : loadGroup c q r = some (q', r')) : loadGroups c (n + 1) q r = loadGroups c n q' r' := by simp [loadGroups, h]
/-- what follows the bodies, and the groups -/
def endL (x : Option (Core × Rd)) : Option Core := match x with
  | none => none
  | some (q', r2) => bif r2.ended then some q' else none
def grpL (c : Conf) (x : Option (Core × Rd)) : Option Core := match x with
  | none => none
  | some (q, r1) => endL (loadGroups c (r1.num 2).1 q (r1.num 2).2)
theorem loadC_words (c : Conf) (d : Bs) : loadC c d = bif decide ((400 : Int) < ((Rd.mk d false).num 2).1) || !decide ((((Rd.mk d false).num 2).1 : Int) % c.s = 0) then none else
    grpL c (loadBodies c (((Rd.mk d false).num 2).2.num 2).1 ⟨((Rd.mk d false).num 2).1, [], []⟩ (((Rd.mk d false).num 2).2.num 2).2) := by
  unfold loadC grpL endL
  rfl

set_option maxRecDepth 100000 in
set_option maxHeartbeats 4000000 in
theorem load_any (i b : Nat) (c : Conf) : LoadOk i b c := by
  intro d vL ls w T h hd
  obtain ⟨R, hRR⟩ : ∃ R, Hid (loadC c d = R) := ⟨_, hide rfl⟩
  rw [hRR.out]
  replace hRR : Hid (R = _) := hide (hRR.out.symm.trans (loadC_words c d))
  have hgood := h.good
  have hcok := h.ok
  have hcs := (good_all hgood).2.2.1
  have s1 := step_new w T (.cells #[.string (mkB d), .bool false] 161) (rT i) (fun _ => False)
  have hO := blk_new w T #[.string (mkB d), .bool false] 161 (rT i)
  have hRd : RdB (w.alloc (.cells #[.string (mkB d), .bool false] 161)) (retag T w.heap.size (rT i)) (rT i) w.heap.size 161 #[.bool false, .bool false] ⟨d, false⟩ := ⟨hO, (by decide : 2 ≤ 2), by show d.length ≤ _; omega⟩
  have h1 := h.step s1 (fun _ _ _ h => h)
  have lb1 : b < (w.alloc (.cells #[.string (mkB d), .bool false] 161)).heap.size := by obtain ⟨_, _, _, _, _, _, hB, _⟩ := h1; exact hB.lt
  clear h hO
  go_enter Tryz.func128, Tryz.ntmps128
  go_wp2_with fail
  generalize hT1 : retag T w.heap.size (rT i) = T1 at *
  generalize hw1 : w.alloc (.cells #[.string (mkB d), .bool false] 161) = w1 at *
  generalize hrb : w.heap.size = rb at hRd ⊢
  clear hT1 hw1 hrb
  generalize (#[.bool false, .bool false] : Array Value) = cs at hRd
  have hnu := num_any (rT i) rb _ cs ⟨d, false⟩ w1 T1 hRd
  have hfl := decN_small ⟨d, false⟩ 2
  refine hnu.mono ?_
  clear hnu
  rintro e2 w2 ⟨rfl, s2, hR2⟩
  have h2 := h1.step s2 (fun r k hk hh => by simp at hh; omega)
  have s02 : Step (XT i) w T w2 T1 := (s1.mono (fun _ h => h.elim)).trans (s2.mono (fun t h => by subst h; exact ⟨rfl, rfl⟩))
  clear h1 hRd s1 s2 lb1
  generalize (Rd.mk d false).num 2 = x2 at *
  obtain ⟨fl, r2⟩ := x2
  simp only at hfl hR2 hRR ⊢
  obtain ⟨_, _, vB, mb, f, ps, hB, hS, hN, hG, hL⟩ := h2
  have lb2 := hB.lt
  have z5 := hB.frozen 5
  have c5 := hB.cell (j := 5) (v := .int .i64 (Core.zero).floor) rfl
  have hB3 := hB.set 5 (.int .i64 fl)
  have s3 : Step (fun t => t = .q i 0 0) w2 T1 (w2.setCell ⟨b, 5, none⟩ (.int .i64 fl)) T1 := step_setCell _ _ _ _ _ hB.1
  have hS3 := hS.step s3 (by simp)
  have hN3 := hN.step s3 (by simp)
  have hL3 := hL.step s3 (by simp)
  have hR3 := hR2.step s3 (by simp)
  have s03 := s02.trans (s3.mono (fun t h => by subst h; exact ⟨rfl, rfl⟩))
  clear hB hS hN hG hL hR2 s02 s3
  go_wp2_with fail
  clear c5 z5 lb2
  generalize w2.setCell ⟨b, 5, none⟩ (.int .i64 (fl : Int)) = w3 at *
  replace hB3 : Blk w3 T1 (.q i 0 0) b #[.int .i64 c.l, .int .i64 c.d, .int .i64 c.s, .int .i64 c.k, .int .i64 0, .int .i64 fl, vB, .map (some mb), vL, .int .u32 ls] 105 := hB3
  have c2 := hB3.cell (j := 2) (v := .int .i64 c.s) rfl
  have c5 := hB3.cell (j := 5) (v := .int .i64 fl) rfl
  have lb3 := hB3.lt
  have hrem : (fl : Int).tmod c.s = (fl : Int) % c.s := Int.tmod_eq_emod_of_nonneg (by omega)
  have hcs1 : ¬ c.s = 0 := by omega
  by_cases h4 : (400 : Int) < fl
  · have er : Hid (R = none) := hide (by rw [hRR.out, decide_eq_true h4]; rfl)
    have hd4 : decide ((400 : Int) < fl) = true := decide_eq_true h4
    go_wp2_with fail
    refine wp_region_over (by kernel_rfl) (by kernel_rfl) ?_
    repeat (go_big_quiet_step (fail))
    refine wpQuiet_nil ?_
    rintro _ ⟨x4, rfl⟩
    have g4 := step_below (XT i) T1 (over_below w3 x4)
    go_wp2
    go_ret
    exact ⟨T1, s03.trans g4, by rw [er.out]; rfl⟩
  have hd4 : decide ((400 : Int) < fl) = false := decide_eq_false h4
  by_cases hm : (fl : Int).tmod c.s = 0
  case neg =>
    have hm2 : ¬ (fl : Int) % c.s = 0 := by rw [← hrem]; exact hm
    have er : Hid (R = none) := hide (by rw [hRR.out, hd4, decide_eq_false hm2]; rfl)
    have hm3 : ((fl : Int).tmod c.s == 0) = false := by simpa using hm
    have hm4 : ((fl : Int).tmod c.s != 0) = true := by simpa using hm
    go_wp2_with fail
    refine wp_region_over (by kernel_rfl) (by kernel_rfl) ?_
    repeat (go_big_quiet_step (fail))
    refine wpQuiet_nil ?_
    rintro _ ⟨x4, rfl⟩
    have g4 := step_below (XT i) T1 (over_below w3 x4)
    go_wp2
    go_ret
    exact ⟨T1, s03.trans g4, by rw [er.out]; rfl⟩
  have hm2 : (fl : Int) % c.s = 0 := by rw [← hrem]; exact hm
  replace hRR : Hid (R = grpL c (loadBodies c (r2.num 2).1 ⟨fl, [], []⟩ (r2.num 2).2)) := hide (by rw [hRR.out, hd4, decide_eq_true hm2]; rfl)
  have hm3 : ((fl : Int).tmod c.s == 0) = true := by simpa using hm
  have hm4 : ((fl : Int).tmod c.s != 0) = false := by simpa using hm
  have hck := (good_all hgood).2.2.2
  have C3 : CM w3 T1 i b c ⟨fl, [], []⟩ vL ls [] := ⟨hgood, ⟨hcok.d, hcok.s, hcok.k, by show (0 : Int) ≤ fl; omega, hm2, by show (fl : Int) + 0 ≤ 400; omega, by show (0 : Int) ≤ c.k; omega, fun s hs => by simp at hs, by simp, by simp [Core.names], fun s hs => by simp [Core.names] at hs, fun p hp => by simp at hp⟩, vB, mb, f, ps, hB3, hS3, hN3, fun k p hp => by simp at hp, hL3⟩
  clear hB3 hS3 hN3 hL3 hrem hm2 hck
  go_wp2_with fail
  refine wp_region_over (by kernel_rfl) (by kernel_rfl) ?_
  repeat (go_big_quiet_step (fail))
  refine wpQuiet_nil ?_
  rintro _ ⟨x4, rfl⟩
  have g4 := step_below (fun _ => False) T1 (over_below w3 x4)
  have C4 := C3.step g4 (fun _ _ _ h => h)
  have hR4 := hR3.step g4 (fun h => h)
  have s04 := s03.trans (g4.mono (fun _ h => h.elim))
  clear C3 hR3 s03 c2 c5 lb3 g4
  generalize over w3 x4 = w4 at *
  have hnu := num_any (rT i) rb _ cs r2 w4 T1 hR4
  have hn5 := decN_small r2 2
  go_wp2_with fail
  refine hnu.mono ?_
  clear hnu
  rintro e5 w5 ⟨rfl, s5, hR5⟩
  have C5 := C4.step s5 (fun r k hk hh => by simp at hh; omega)
  have s05 := s04.trans (s5.mono (fun t h => by subst h; exact ⟨rfl, rfl⟩))
  clear C4 hR4 s04 s5
  generalize (r2.num 2).2 = r5 at *
  generalize (r2.num 2).1 = n5 at *
  generalize hq5 : (⟨fl, [], []⟩ : Core) = q5 at *
  clear hq5
  go_wp2_with fail
  go_loopw [36] (fun v wr => ∃ (j : Nat) (T' : Nat → Tag) (q : Core) (rj : Rd), j ≤ n5 ∧ v = .int .i64 j ∧ Step (XT i) w T wr T' ∧ CM wr T' i b c q vL ls [] ∧ RdB wr T' (rT i) rb 161 cs rj ∧ Hid (R = grpL c (loadBodies c (n5 - j) q rj))) (fun v _ => n5 - (intOf v).toNat)
  case atStart => exact ⟨0, T1, q5, r5, Nat.zero_le _, rfl, s05, C5, hR5, hRR⟩
  case round =>
    obtain ⟨j, T6, q6, r6, hj, rfl, s6, C6, hR6, hRj⟩ := hrel
    clear C5 hR5 s05 hRR
    by_cases hjl : j < n5
    · have htx := text_any (rT i) rb _ cs r6 wr T6 hR6
      have hsub : n5 - j = (n5 - (j + 1)) + 1 := by omega
      rw [hsub] at hRj
      unfold loadBodies at hRj
      go_wp2_with fail
      refine htx.mono ?_
      clear htx
      rintro e7 w7 ⟨rfl, s7, hR7⟩
      have C7 := C6.step s7 (fun r k hk hh => by simp at hh; omega)
      have s07 := s6.trans (s7.mono (fun t h => by subst h; exact ⟨rfl, rfl⟩))
      have hkp := ckeep_fine i b c q6 vL ls [] (mkB r6.text.1) w7 T6 C7
      go_wp2_with fail
      refine hkp.mono ?_
      clear hkp
      rintro e8 w8 ⟨v8, T8, rfl, s8, C8⟩
      have s08 := s07.trans (s8.mono (fun t h => by rcases h with rfl | rfl <;> exact ⟨rfl, rfl⟩))
      cases hk : decide (q6.keepE c (mkB r6.text.1) = 0)
      · have hk2 : ¬ q6.keepE c (mkB r6.text.1) = 0 := of_decide_eq_false hk
        have er : Hid (R = none) := hide (by rw [hRj.out, hk]; rfl)
        clear C8 C7 C6 hR7 hR6 hRj
        go_wp2
        go_ret
        exact ⟨T8, s08, by rw [er.out]; rfl⟩
      · have hk2 : q6.keepE c (mkB r6.text.1) = 0 := of_decide_eq_true hk
        rw [hk] at C8
        have hRk : Hid (R = grpL c (loadBodies c (n5 - (j + 1)) (q6.keep (mkB r6.text.1)) r6.text.2)) := hide (by rw [hRj.out, hk]; rfl)
        have hR8 := hR7.step s8 (by simp)
        have P8 := hide (And.intro s08 (And.intro C8 (And.intro hR8 hRk)))
        clear s08 C8 hR8 hRk C7 C6 hR7 hR6 hRj s6 s7 s07 s8 hk
        go_wp2
        exact ⟨⟨j + 1, T8, _, _, by omega, by simp, P8.out.1, P8.out.2.1, P8.out.2.2.1, P8.out.2.2.2⟩, by simp [intOf]; omega⟩
    · have hz : n5 - j = 0 := by omega
      replace hRj : Hid (R = endL (loadGroups c (r6.num 2).1 q6 (r6.num 2).2)) := hide (by rw [hRj.out, hz]; rfl)
      have hnu := num_any (rT i) rb _ cs r6 wr T6 hR6
      have hn7 := decN_small r6 2
      clear hz
      go_wp2_with fail
      refine hnu.mono ?_
      clear hnu
      rintro e7 w7 ⟨rfl, s7, hR7⟩
      have C7 := C6.step s7 (fun r k hk hh => by simp at hh; omega)
      have s07 := s6.trans (s7.mono (fun t h => by subst h; exact ⟨rfl, rfl⟩))
      clear C6 hR6 s6 s7
      generalize (r6.num 2).2 = r7 at *
      generalize (r6.num 2).1 = n7 at *
      go_wp2_with fail
      go_loopw [50] (fun v wr => ∃ (j : Nat) (T' : Nat → Tag) (q : Core) (rj : Rd), j ≤ n7 ∧ v = .int .i64 j ∧ Step (XT i) w T wr T' ∧ CM wr T' i b c q vL ls [] ∧ RdB wr T' (rT i) rb 161 cs rj ∧ Hid (R = endL (loadGroups c (n7 - j) q rj))) (fun v _ => n7 - (intOf v).toNat)
      case atStart => exact ⟨0, T6, q6, r7, Nat.zero_le _, rfl, s07, C7, hR7, hRj⟩
      case round =>
        obtain ⟨j, T8, q8, r8, hj, rfl, s8, C8, hR8, hRj8⟩ := hrel
        clear C7 hR7 s07 hRj
        by_cases hjl : j < n7
        · have hlg := loadGroup_any i b rb c q8 vL ls [] r8 cs _ wr T8 C8 hR8
          have hsub : n7 - j = (n7 - (j + 1)) + 1 := by omega
          rw [hsub] at hRj8
          cases hgr : loadGroup c q8 r8 with
          | none =>
            rw [hgr] at hlg
            have er : Hid (R = none) := hide (by rw [hRj8.out, loadGroups_none hgr]; rfl)
            clear C8 hR8 hRj8
            go_wp2_with fail
            refine hlg.mono ?_
            clear hlg
            rintro e9 w9 ⟨T9, s9, rfl⟩
            have s09 := s8.trans s9
            go_wp2
            go_ret
            exact ⟨T9, s09, by rw [er.out]; rfl⟩
          | some x =>
            obtain ⟨q9, r9⟩ := x
            rw [hgr] at hlg
            have hR9 : Hid (R = endL (loadGroups c (n7 - (j + 1)) q9 r9)) := hide (by rw [hRj8.out, loadGroups_some hgr])
            clear C8 hR8 hRj8
            go_wp2_with fail
            refine hlg.mono ?_
            clear hlg
            rintro e9 w9 ⟨T9, s9, rfl, C9, hRd9⟩
            have s09 := s8.trans s9
            have P9 := hide (And.intro s09 (And.intro C9 (And.intro hRd9 hR9)))
            clear s09 C9 hRd9 hR9 s8 s9 hgr
            go_wp2
            exact ⟨⟨j + 1, T9, _, _, by omega, by simp, P9.out.1, P9.out.2.1, P9.out.2.2.1, P9.out.2.2.2⟩, by simp [intOf]; omega⟩
        · have hz : n7 - j = 0 := by omega
          have hRf : Hid (R = bif r8.ended then some q8 else none) := hide (by rw [hRj8.out, hz]; rfl)
          have hen := ended_any (rT i) rb _ cs r8 wr T8 hR8
          clear hRj8 hz
          go_wp2_with fail
          refine hen.mono ?_
          clear hen
          rintro e9 w9 ⟨rfl, rfl⟩
          go_wp2
          go_ret
          refine ⟨T8, s8, ?_⟩
          rw [hRf.out]
          cases r8.ended
          · rfl
          · exact ⟨rfl, C8⟩

end Go.Proofs.YtockkceclkcgbaaGreatDoor

/- A queue that Open made of a text is the document's queue of which the text speaks, in whatever order its groups lie. -/
namespace Go.Proofs.YtockkceclkcgbaaGreatDoor
open Go.RowKit Go.Maps

/-! blocks that get another tag -/
theorem Blk.move {w : World} {T T' : Nat → Tag} {t t' : Tag} {b : Nat} {cs : Array Value} {e : TypeId} (h : Blk w T t b cs e) (hf : ∀ g, T g = t → T' g = t') : Blk w T' t' b cs e := ⟨hf b h.1, h.2⟩
theorem Row.move {w : World} {T T' : Nat → Tag} {t t' : Tag} {e : TypeId} {size : Nat} {v : Value} {n : Nat} {xs : List Value} (h : Row w T t e size v n xs) (hf : ∀ g, T g = t → T' g = t') : Row w T' t' e size v n xs := ⟨h.1, fun g hg => hf g (h.2 g hg)⟩
theorem Sub.move {w : World} {T T' : Nat → Tag} {t t' : Tag} {v : Value} {xs : List Value} (h : Sub w T t v xs) (hf : ∀ g, T g = t → T' g = t') : Sub w T' t' v xs := by
  obtain ⟨ao, cap, h1, h2, h3⟩ := h
  refine ⟨ao, cap, h1, h2, h3.imp id ?_⟩
  rintro ⟨g, off, cur, e, hT, rest⟩
  exact ⟨g, off, cur, e, hf g hT, rest⟩
theorem TM.move {w : World} {T T' : Nat → Tag} {t t' : Tag} {b : Nat} {f : Int → Int} (h : TM w T t b f) (hf : ∀ g, T g = t → T' g = t') : TM w T' t' b f := ⟨hf b h.1, h.2⟩
theorem WM.move {w : World} {T T' : Nat → Tag} {t t' : Tag} {b : Nat} {f : Int → Option (Int × Bool)} (h : WM w T t b f) (hf : ∀ g, T g = t → T' g = t') : WM w T' t' b f := ⟨hf b h.1, h.2⟩
theorem GM.move {w : World} {T T' : Nat → Tag} {i i' k k' gb : Nat} {p : PG} (h : GM w T i k gb p) (hf : ∀ r g, 3 ≤ r → T g = .q i r k → T' g = .q i' r k') : GM w T' i' k' gb p := by
  obtain ⟨vD, vE, tb, wb, h1, h2, h3, h4, h5⟩ := h
  exact ⟨vD, vE, tb, wb, h1.move (fun g => hf 3 g (by decide)), h2.move (fun g => hf 4 g (by decide)), h3.move (fun g => hf 5 g (by decide)), h4.move (fun g => hf 6 g (by decide)), h5.move (fun g => hf 7 g (by decide))⟩

/-- the blocks of queue j become those of queue i, its groups in another order -/
def moveT (j i : Nat) (σ : Nat → Nat) (T : Nat → Tag) : Nat → Tag := fun k => if (T k).c = 5 ∧ (T k).i = j then ⟨5, i, (T k).r, if 3 ≤ (T k).r then σ (T k).k else (T k).k⟩ else T k
theorem move_low {j i : Nat} {σ : Nat → Nat} {T : Nat → Tag} {r k : Nat} (hr : r < 3) (g : Nat) (h : T g = .q j r k) : moveT j i σ T g = .q i r k := by
  unfold moveT
  rw [h]
  simp [show ¬ 3 ≤ r by omega]
theorem move_grp {j i : Nat} {σ : Nat → Nat} {T : Nat → Tag} {r k : Nat} (hr : 3 ≤ r) (g : Nat) (h : T g = .q j r k) : moveT j i σ T g = .q i r (σ k) := by
  unfold moveT
  rw [h]
  simp [hr]
theorem move_old {j i : Nat} {σ : Nat → Nat} {T : Nat → Tag} {g : Nat} (h : ¬ XT j (T g)) : moveT j i σ T g = T g := by
  unfold moveT
  exact if_neg h
/-- a number that no block's tag bears -/
theorem fresh_num (T : Nat → Tag) : ∀ n : Nat, ∃ m : Nat, ∀ k, k < n → (T k).i < m
  | 0 => ⟨0, fun k hk => absurd hk (by omega)⟩
  | n + 1 => by
    obtain ⟨m, hm⟩ := fresh_num T n
    refine ⟨max m ((T n).i + 1), fun k hk => ?_⟩
    by_cases h : k = n
    · subst h; omega
    · have := hm k (by omega); omega

theorem idx_of {s : ByteArray} {l : List ByteArray} {k : Nat} (hn : l.Nodup) (h : l[k]? = some s) : idx s l = some k := by
  cases hi : idx s l with
  | none => exact absurd (List.mem_of_getElem? h) (idx_none.1 hi)
  | some j =>
    have h2 := idx_some hi
    rw [(List.getElem?_inj (List.getElem?_eq_some_iff.1 h2).1 hn).1 (h2.trans h.symm)]
theorem idx_perm {l l' : List ByteArray} (h : l.Perm l') (s : ByteArray) : (idx s l).isSome = (idx s l').isSome := by
  rw [Bool.eq_iff_iff, Option.isSome_iff_ne_none, Option.isSome_iff_ne_none, Ne, Ne, idx_none, idx_none, h.mem_iff]
theorem NM.perm {w : World} {T : Nat → Tag} {t : Tag} {b : Nat} {names names' : List ByteArray} {f : Nat → Nat} (h : NM w T t b names f) (hp : names.Perm names') (f' : Nat → Nat) (hf : ∀ s k k', idx s names = some k → idx s names' = some k' → f' k' = f k) : NM w T t b names' f' := by
  obtain ⟨h1, n, D, h2, h3, h4, h5⟩ := h
  refine ⟨h1, n, D, h2, h3.trans hp.length_eq, fun s => (h4 s).trans (idx_perm hp s), fun s k' hk' z => ?_⟩
  cases hi : idx s names with
  | none =>
    have := idx_perm hp s
    rw [hi, hk'] at this
    cases this
  | some k => rw [h5 s k hi z, hf s k k' hi hk']
theorem NM.move {w : World} {T T' : Nat → Tag} {t t' : Tag} {b : Nat} {names : List ByteArray} {f : Nat → Nat} (h : NM w T t b names f) (hf : ∀ g, T g = t → T' g = t') : NM w T' t' b names f := ⟨hf b h.1, h.2⟩

/-! the document's queue that is opened anew -/
/-- what must hold of a queue that a text speaks of -/
structure Calm (q : MQ) : Prop where
  time : q.time = 0
  small : q.bodies.length ≤ 400
  few : q.groups.length ≤ 6
  nodup : q.names.Nodup
  short : ∀ s ∈ q.names, s.size ≤ 16
  inv : ∀ g ∈ q.groups, InvG q g
  rel : ∀ g ∈ q.groups, RelG q g (coreG q g).pg
  lsd : Lsd q

theorem co_x {w : World} {T : Nat → Tag} {j i b : Nat} {c : Conf} {co : Core} {vL : Value} {ls : Nat} {lg : Bs} {q : MQ} (h : CO w T j b c co vL ls lg) (hc : q.c = c) (hs : Same co (coreM q)) (hq : Calm q) :
    ∃ σ, XM w (moveT j i σ T) i b q vL (.int .u32 ls) lg := by
  obtain ⟨h1, h2, vB, mb, f, hB, hS, hN, hG, hL⟩ := h
  have hpn : co.names.Perm q.names := by rw [← coreM_names]; exact hs.names
  have hfl : co.floor = q.floor := hs.floor
  have hbo : co.bodies = q.bodies.drop q.floor.toNat := hs.bodies
  refine ⟨fun k => (idx (co.names.getD k ⟨#[]⟩) q.names).getD 0, hq.small, hq.few, hq.nodup, hq.short, hq.inv, vB, mb, fun k => f ((idx (q.names.getD k ⟨#[]⟩) co.names).getD 0), fun k => match q.groups[k]? with | some g => (coreG q g).pg | none => newP 0, ?_, ?_, ?_, fun k g hg => ?_, ?_⟩
  · rw [hc, hq.time, ← hfl]
    exact hB.move (move_low (by decide))
  · rw [← hbo]
    exact hS.move (move_low (by decide))
  · refine (hN.perm hpn _ (fun s k k' hk hk' => ?_)).move (move_low (by decide))
    have e1 : q.names.getD k' ⟨#[]⟩ = s := by rw [List.getD_eq_getElem?_getD, idx_some hk']; rfl
    simp only [e1, hk, Option.getD_some]
  · have hgm := List.mem_of_getElem? hg
    have hmem : (g.name, coreG q g) ∈ co.gs := hs.gs.mem_iff.2 (List.mem_map.2 ⟨g, hgm, rfl⟩)
    obtain ⟨k0, hk0⟩ := List.getElem?_of_mem hmem
    have hn0 : co.names[k0]? = some g.name := by simp [Core.names, hk0]
    have hnk : q.names[k]? = some g.name := by simp [MQ.names, hg]
    have i0 := idx_of h2.once hn0
    have i1 := idx_of hq.nodup hnk
    have e1 : q.names.getD k ⟨#[]⟩ = g.name := by rw [List.getD_eq_getElem?_getD, hnk]; rfl
    have e0 : co.names.getD k0 ⟨#[]⟩ = g.name := by rw [List.getD_eq_getElem?_getD, hn0]; rfl
    have hg0 := hG k0 _ hk0
    simp only [hg, e1, i0, Option.getD_some]
    refine ⟨hg0.move (fun r b' hr hb => ?_), hq.rel g hgm⟩
    have := move_grp (j := j) (i := i) (σ := fun k => (idx (co.names.getD k ⟨#[]⟩) q.names).getD 0) hr b' hb
    rw [this]
    simp only [e0, i1, Option.getD_some]
  · exact hL.move (move_low (by decide))

/-! a queue behind a crash -/
theorem wakeI_tries (l : List It) (n : Int) : triesOf (itemAt (l.map wakeI) n) = triesOf (itemAt l n) ∧ waitOf 0 (itemAt (l.map wakeI) n) = none ∧ doneB (l.map wakeI) n = doneB l n := by
  have e : itemAt (l.map wakeI) n = (itemAt l n).map wakeI := by
    unfold itemAt
    cases decide (0 ≤ n) <;> simp
  rw [doneB_at, doneB_at, e]
  cases itemAt l n with
  | none => exact ⟨rfl, rfl, rfl⟩
  | some x =>
    refine ⟨rfl, ?_, rfl⟩
    simp [waitOf, wakeI]
theorem wake_rel {m : MQ} {g : MG} {p : PG} {ch : Int} (h : RelG m g p) : RelG (wakeM m ch) (wakeG g) (calmP p) := by
  refine ⟨h.start, h.set, fun n => (h.done n).trans (wakeI_tries g.items n).2.2.symm, h.dead.trans (List.map_congr_left (fun n _ => ?_)), fun n => (h.tr n).trans (wakeI_tries g.items n).1.symm, fun n => (wakeI_tries g.items n).2.1.symm⟩
  unfold deadOf
  simp only [wakeM, wakeG, List.getD_eq_getElem?_getD, List.getElem?_map]
  cases g.items[n]? <;> rfl
theorem wake_inv {m : MQ} {g : MG} {ch : Int} (h : InvG m g) : InvG (wakeM m ch) (wakeG g) := by
  have key : ∀ x ∈ (wakeG g).items, ∃ y ∈ g.items, x = wakeI y := fun x hx => by
    obtain ⟨y, hy, rfl⟩ := List.mem_map.1 hx
    exact ⟨y, hy, rfl⟩
  refine ⟨fun x hx => ?_, fun x hx => ?_, fun x hx hlt => ?_, fun n hn => ?_⟩
  · obtain ⟨y, hy, rfl⟩ := key x hx; exact h.done y hy
  · obtain ⟨y, hy, rfl⟩ := key x hx; exact h.tries y hy
  · obtain ⟨y, hy, rfl⟩ := key x hx; exact absurd hlt (by simp [wakeM, wakeI])
  · rw [show (wakeG g).items = g.items.map wakeI from rfl, (wakeI_tries g.items n).2.2]; exact h.dead n hn
theorem wake_core {m : MQ} {ch : Int} (hr : Rels m) (hok : m.Ok) (hsm : m.bodies.length ≤ 400) : coreM (wakeM m ch) = coreM m ∧ ∀ g ∈ m.groups, coreG (wakeM m ch) (wakeG g) = coreG m g := by
  have key : ∀ g ∈ m.groups, coreG (wakeM m ch) (wakeG g) = coreG m g := fun g hg => by
    obtain ⟨hi, p, hp⟩ := hr g hg
    rw [← rel_core hp hi.done (small_items hok hsm hg), ← rel_core (wake_rel (ch := ch) hp) (wake_inv (ch := ch) hi).done (by show (g.items.map wakeI).length ≤ _; rw [List.length_map]; exact small_items hok hsm hg)]
    rfl
  refine ⟨coreM_same rfl rfl wakeM_glen (fun k g g' h1 h2 => ?_), key⟩
  rw [wakeM_group, h1] at h2
  cases h2
  exact ⟨rfl, key g (List.mem_of_getElem? h1)⟩
theorem calm_wake {w : World} {T : Nat → Tag} {i b : Nat} {m : MQ} {vL vS : Value} {lg : Bs} {ch : Int} (h : XM w T i b m vL vS lg) (hok : m.Ok) : Calm (wakeM m ch) := by
  have hr := h.rels
  have hc := (wake_core (ch := ch) hr hok h.small).2
  have hnm : (wakeM m ch).names = m.names := by simp [MQ.names, wakeM, wakeG, Function.comp_def]
  have key : ∀ g ∈ (wakeM m ch).groups, ∃ g0 ∈ m.groups, g = wakeG g0 := fun g hg => by
    obtain ⟨g0, h0, rfl⟩ := List.mem_map.1 hg
    exact ⟨g0, h0, rfl⟩
  refine ⟨rfl, h.small, by rw [wakeM_glen]; exact h.few, by rw [hnm]; exact h.nodup, by rw [hnm]; exact h.short, fun g hg => ?_, fun g hg => ?_, fun g hg x hx hlt => ?_⟩
  · obtain ⟨g0, h0, rfl⟩ := key g hg
    exact wake_inv (hr g0 h0).1
  · obtain ⟨g0, h0, rfl⟩ := key g hg
    obtain ⟨hi, p, hp⟩ := hr g0 h0
    rw [hc g0 h0, ← rel_core hp hi.done (small_items hok h.small h0)]
    exact wake_rel hp
  · obtain ⟨g0, h0, rfl⟩ := key g hg
    obtain ⟨y, hy, rfl⟩ := List.mem_map.1 hx
    exact absurd hlt (by simp [wakeM, wakeI])

/-- The text speaks of the queue q, of the configuration c. -/
structure Dec (c : Conf) (s : ByteArray) (q : MQ) : Prop where
  conf : q.c = c
  good : goodC c = true
  size : s.data.toList.length ≤ 1000000000000
  calm : Calm q
  told : ∃ co su lg, openT c s.data.toList = some (co, su, lg) ∧ Same co (coreM q) ∧ LogIs q lg su

theorem dec_log {w : World} {T : Nat → Tag} {i b : Nat} {m : MQ} {vL : Value} {su : Nat} {lg : Bs} {ch : Int} (h : XM w T i b m vL (.int .u32 su) lg) (hl : LogIs m lg su) (hok : m.Ok) : Dec m.c (mkB lg) (wakeM m ch) := by
  have hc := (wake_core (ch := ch) h.rels hok h.small).1
  obtain ⟨q, hT, hS⟩ := hl.told
  refine ⟨rfl, hok.good, by rw [mkB_list]; have := hl.len; omega, calm_wake h hok, q, su, lg, ?_, ?_, hl.same rfl hc⟩
  · rw [mkB_list]; exact hT.whole
  · rw [hc]; exact hS

theorem step_moved {w w' : World} {T T' : Nat → Tag} {j i : Nat} {σ : Nat → Nat} (h : Step (XT j) w T w' T') (hj : ∀ k, k < w.heap.size → (T k).i < j) : Step (fun _ => False) w T w' (moveT j i σ T') := by
  have hn : ∀ k, k < w.heap.size → ¬ XT j (T k) := fun k hk hx => by
    have := hj k hk
    have := hx.2
    omega
  exact ⟨h.os, h.tape, h.output, h.size, fun k hk => by rw [move_old (by rw [h.tag k hk]; exact hn k hk), h.tag k hk], fun k hk _ => h.block k hk (hn k hk)⟩

theorem xopenD_any (a0 a1 : Addr) (c : Conf) (s : ByteArray) (q : MQ) (i : Nat) (w : World) (T : Nat → Tag) (hLd : Laid w T a0 a1) (hd : Dec c s q) :
    Calls Tryz.prog 25 #[.agg c.cells, .string s] w fun e w' => ∃ b, e = .returned (.tuple #[.pointer (some ⟨b, 0, none⟩), .int .i64 0]) ∧ ∃ T', Step (fun _ => False) w T w' T' ∧ X w' T' i b q := by
  obtain ⟨j, hj⟩ := fresh_num T w.heap.size
  obtain ⟨co, su, lg, ho, hs, hl⟩ := hd.told
  have hmk : mkB s.data.toList = s := mkB_data s
  refine (open_any c s j w T (fun w' T' b => ∃ vL, CO w' T' j b c co vL su lg) False (fun b mb w1 T1 hc hs1 hB hN => ?_)).mono ?_
  · have hr := restore_any c j b mb s.data.toList a0 a1 w1 T1 hc hB hN (hLd.step hs1 (by simp [XT])) (fun _ => load_any j b c) hd.size
    rw [hmk, ho] at hr
    refine hr.mono ?_
    rintro e w2 ⟨T2, s2, rfl, hco⟩
    exact ⟨T2, s2, .inl ⟨rfl, hco⟩⟩
  · rintro e w2 (⟨h, _⟩ | ⟨hc, T2, s2, (⟨b, rfl, vL, hco⟩ | ⟨hF, _⟩)⟩)
    · rw [hd.good] at h; cases h
    · obtain ⟨σ, hx⟩ := co_x (i := i) hco hd.conf hs hd.calm
      exact ⟨b, rfl, moveT j i σ T2, step_moved s2 hj, vL, su, lg, hx, hl, hd.calm.lsd⟩
    · exact hF.elim

/-- the queue, with its log shown: the sum, and the text -/
def XG (w : World) (T : Nat → Tag) (i b : Nat) (m : MQ) (gh : Nat × Bs) : Prop := ∃ vL : Value, XM w T i b m vL (.int .u32 gh.1) gh.2 ∧ LogIs m gh.2 gh.1 ∧ Lsd m
/-- what each call makes of the log -/
def FG : GF (Nat × Bs) where
  new c := (seedS c, [])
  enq m s gh := (logS (decide (menqE m s = 0)) gh.1 101 s.data.toList, logL (decide (menqE m s = 0)) gh.2 gh.1 101 s.data.toList)
  grp m s fr gh := (logS (decide (mgrpE m s fr = 0)) gh.1 103 (namedB s [fr]), logL (decide (mgrpE m s fr = 0)) gh.2 gh.1 103 (namedB s [fr]))
  recv m s n gh := (logS (!(servedL m s n).isEmpty) gh.1 114 (namedB s (servedL m s n)), logL (!(servedL m s n).isEmpty) gh.2 gh.1 114 (namedB s (servedL m s n)))
  ack m s off tr gh := (logS (decide (leasedE m s off tr = 0)) gh.1 97 (namedB s [off]), logL (decide (leasedE m s off tr = 0)) gh.2 gh.1 97 (namedB s [off]))
  ret m gh := (logS (decide (0 < retainN m)) gh.1 102 [], logL (decide (0 < retainN m)) gh.2 gh.1 102 [])

theorem xl (B : Int) (hB : B ≤ 3999999999999940000) : XL XG FG B where
  ackNo := fun m s off tr gh h => by simp [FG, logS, logL, h]
  step := fun hx hs hS => by
    obtain ⟨vL, hx, h2⟩ := hx
    exact ⟨vL, hx.step hs hS, h2⟩
  opn := fun c i w T => by
    refine (xopenL_any c i w T).mono ?_
    rintro e w2 (h | ⟨hc, b, T2, rfl, s2, hx⟩)
    · exact .inl h
    · exact .inr ⟨hc, b, T2, rfl, s2, _, hx, log_new hc⟩
  enq := fun i b m t gh w T hx hf => by
    obtain ⟨vL, hx, h2, h3⟩ := hx
    refine (xenq_any i b m t w T hx hf.ok h2.lt (by have := h2.len; omega)).mono ?_
    rintro e w1 ⟨rfl, T1, vL1, s1, hx1⟩
    exact ⟨rfl, T1, s1, vL1, hx1, log_enq h2 hx.rels hf.ok hx.small, lsd_enq h3 hf.ok⟩
  grp := fun i b m nm fr gh w T hx hf => by
    obtain ⟨vL, hx, h2, h3⟩ := hx
    refine (xgrp_any i b m nm fr w T hx hf.ok h2.lt (by have := h2.len; omega)).mono ?_
    rintro e w1 ⟨rfl, T1, vL1, s1, hx1⟩
    exact ⟨rfl, T1, s1, vL1, hx1, log_grp h2 hf.ok hx.small, lsd_grp h3 hf.ok⟩
  recv := fun i b m nm n t gh w T hx hf => by
    obtain ⟨vL, hx, h2, h3⟩ := hx
    refine (xrecv_any i b m nm n t w T hx hf hB h2.lt (by have := h2.len; omega)).mono ?_
    rintro e w1 ⟨ao, cap, rfl, T1, vL1, s1, hx1, hR⟩
    obtain ⟨l1, l2⟩ := log_recv (nm := nm) (n := n) h2 hx.rels hf.ok hx.small hx.nodup hx.short h3
    exact ⟨ao, cap, rfl, T1, s1, ⟨vL1, hx1, l1, l2⟩, hR⟩
  ack := fun i b m nm off tr gh w T hx hf => by
    obtain ⟨vL, hx, h2, h3⟩ := hx
    refine (xack_any i b m nm off tr w T hx hf.ok h2.lt (by have := h2.len; omega)).mono ?_
    rintro e w1 ⟨rfl, T1, vL1, s1, hx1⟩
    exact ⟨rfl, T1, s1, vL1, hx1, log_ack h2 hx.rels hf.ok hx.small hx.nodup hx.short h3, lsd_ack hf.ok h3⟩
  nack := fun i b m nm off tr d gh w T hx hf => by
    obtain ⟨vL, hx, h2, h3⟩ := hx
    refine (xnack_any i b m nm off tr d w T hx hf.ok).mono ?_
    rintro e w1 ⟨rfl, T1, s1, hx1⟩
    exact ⟨rfl, T1, s1, vL, hx1, log_nack h2 hx.rels hf.ok hx.small h3⟩
  tick := fun i b m d gh w T hx hf => by
    obtain ⟨vL, hx, h2, h3⟩ := hx
    refine (xtick_any i b m d w T hx hf.ok).mono ?_
    rintro e w1 ⟨rfl, T1, s1, hx1⟩
    exact ⟨rfl, T1, s1, vL, hx1, log_tick h2 h3⟩
  done := fun i b m nm t gh w T hx hf => by
    obtain ⟨vL, hx, h2⟩ := hx
    refine (xdone_any i b m nm t w T hx hf.ok).mono ?_
    rintro e w1 ⟨ao, cap, rfl, T1, s1, hx1, hR⟩
    exact ⟨ao, cap, rfl, T1, s1, ⟨vL, hx1, h2⟩, hR⟩
  dead := fun i b m nm t gh w T hx hf => by
    obtain ⟨vL, hx, h2⟩ := hx
    refine (xdead_any i b m nm t w T hx (hf.dead hx.small)).mono ?_
    rintro e w1 ⟨ao, cap, rfl, T1, s1, hx1, hR⟩
    exact ⟨ao, cap, rfl, T1, s1, ⟨vL, hx1, h2⟩, hR⟩
  span := fun i b m gh w T hx hf => by
    obtain ⟨vL, hx, h2⟩ := hx
    refine (xspan_any i b m w T hx hf.ok).mono ?_
    rintro e w1 ⟨rfl, T1, s1, hx1⟩
    exact ⟨rfl, T1, s1, vL, hx1, h2⟩
  ret := fun i b m gh w T hx hf => by
    obtain ⟨vL, hx, h2, h3⟩ := hx
    refine (xretain_any i b m w T hx hf.ok h2.lt (by have := h2.len; omega)).mono ?_
    rintro e w1 ⟨rfl, T1, vL1, s1, hx1⟩
    exact ⟨rfl, T1, s1, vL1, hx1, log_ret h2 hx.rels hf.ok hx.small, lsd_ret h3⟩

/-- Open of a queue's log: the queue as it is behind a crash, with that log -/
theorem xopenG_any (a0 a1 : Addr) (m : MQ) (gh : Nat × Bs) (i : Nat) (hok : m.Ok) (hcalm : Calm (wakeM m 0)) (hl : LogIs m gh.2 gh.1) (hlw : LogIs (wakeM m 0) gh.2 gh.1) (hcw : coreM (wakeM m 0) = coreM m) (w : World) (T : Nat → Tag) (hLd : Laid w T a0 a1) :
    Calls Tryz.prog 25 #[.agg m.c.cells, .string (mkB gh.2)] w fun e w' => ∃ b, e = .returned (.tuple #[.pointer (some ⟨b, 0, none⟩), .int .i64 0]) ∧ ∃ T', Step (fun _ => False) w T w' T' ∧ XG w' T' i b (wakeM m 0) gh := by
  obtain ⟨j, hj⟩ := fresh_num T w.heap.size
  obtain ⟨co, hT, hS⟩ := hl.told
  have ho := hT.whole
  refine (open_any m.c (mkB gh.2) j w T (fun w' T' b => ∃ vL, CO w' T' j b m.c co vL gh.1 gh.2) False (fun b mb w1 T1 hc hs1 hB hN => ?_)).mono ?_
  · have hr := restore_any m.c j b mb gh.2 a0 a1 w1 T1 hc hB hN (hLd.step hs1 (by simp [XT])) (fun _ => load_any j b m.c) (by have := hl.len; omega)
    rw [ho] at hr
    refine hr.mono ?_
    rintro e w2 ⟨T2, s2, rfl, hco⟩
    exact ⟨T2, s2, .inl ⟨rfl, hco⟩⟩
  · rintro e w2 (⟨h, _⟩ | ⟨hc, T2, s2, (⟨b, rfl, vL, hco⟩ | ⟨hF, _⟩)⟩)
    · rw [hok.good] at h; cases h
    · obtain ⟨σ, hx⟩ := co_x (i := i) (q := wakeM m 0) hco rfl (by rw [hcw]; exact hS) hcalm
      exact ⟨b, rfl, moveT j i σ T2, step_moved s2 hj, vL, hx, hlw, hcalm.lsd⟩
    · exact hF.elim

/-- a run can crash -/
theorem xe (a0 a1 : Addr) (B : Int) (hB : B ≤ 3999999999999940000) : XE XG FG (fun w T => Laid w T a0 a1) B where
  xl := xl B hB
  ld := fun h hs hS => h.step hs hS
  log := fun i b m gh w T hx hf => by
    obtain ⟨vL, hx, h2, h3⟩ := hx
    refine (xlog_any i b m w T hx).mono ?_
    rintro e w1 ⟨rfl, rfl⟩
    have hc := (wake_core (ch := 0) hx.rels hf.ok hx.small).1
    exact ⟨_, rfl, ⟨T, Step.refl _ _ _, vL, hx, h2, h3⟩, fun w1 T1 hl => xopenG_any a0 a1 m gh i hf.ok (calm_wake hx hf.ok) h2 (h2.same rfl hc) hc w1 T1 hl⟩

end Go.Proofs.YtockkceclkcgbaaGreatDoor

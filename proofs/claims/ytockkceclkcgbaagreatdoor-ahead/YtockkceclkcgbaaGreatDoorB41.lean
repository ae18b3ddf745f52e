/- A group, read of a snapshot: loadGroup. -/
import Derived.Test.YtockkceclkcgbaaGreatDoorB40
namespace Go.Proofs.YtockkceclkcgbaaGreatDoor
open Go.RowKit Go.Maps

/-- a queue to which a group of number K is being added, its block gb -/
structure LQ (w : World) (T : Nat → Tag) (i b : Nat) (c : Conf) (co : Core) (vL : Value) (ls : Nat) (lg : Bs) (vB : Value) (mb : Nat) (f : Nat → Nat) (ps : Nat → PG) (s : ByteArray) (gb : Nat) : Prop where
  blk : Blk w T (.q i 0 0) b #[.int .i64 c.l, .int .i64 c.d, .int .i64 c.s, .int .i64 c.k, .int .i64 0, .int .i64 co.floor, vB, .map (some mb), vL, .int .u32 ls] 105
  sub : Sub w T (.q i 1 0) vB (co.bodies.map .string)
  nm : NM w T (.q i 2 0) mb (co.names ++ [s]) (updN f co.names.length gb)
  gm : ∀ k p, co.gs[k]? = some p → GM w T i k (f k) (ps k) ∧ (ps k).core = p.2
  row : BRow w T (.q i 1 1) vL lg
/-- the blocks that are written then -/
def LT2 (i K : Nat) (t : Tag) : Prop := SG i K t ∨ t = rT i
theorem LQ.step {w w' : World} {T T' : Nat → Tag} {i b : Nat} {c : Conf} {co : Core} {vL : Value} {ls : Nat} {lg : Bs} {vB : Value} {mb : Nat} {f : Nat → Nat} {ps : Nat → PG} {s : ByteArray} {gb : Nat} (h : LQ w T i b c co vL ls lg vB mb f ps s gb) (hs : Step (LT2 i co.names.length) w T w' T') : LQ w' T' i b c co vL ls lg vB mb f ps s gb := by
  have n0 : ∀ r k, r < 3 → (r ≠ 0 ∨ k = 0) → ¬ LT2 i co.names.length (.q i r k) := fun r k hr hk h => by
    rcases h with ⟨r', h1, h2⟩ | h
    · simp at h2; omega
    · simp at h; omega
  refine ⟨h.blk.step hs (n0 _ _ (by decide) (.inr rfl)), h.sub.step hs (n0 _ _ (by decide) (.inl (by decide))), h.nm.step hs (n0 _ _ (by decide) (.inl (by decide))), fun k p hp => ⟨(h.gm k p hp).1.step hs (fun r hr h => ?_), (h.gm k p hp).2⟩, h.row.step hs (n0 _ _ (by decide) (.inl (by decide)))⟩
  have hk : k < co.names.length := by
    have := (List.getElem?_eq_some_iff.1 hp).1
    simp [Core.names]
    exact this
  rcases h with ⟨r', h1, h2⟩ | h
  · simp at h2; omega
  · simp at h; omega
theorem LQ.cm {w : World} {T : Nat → Tag} {i b : Nat} {c : Conf} {co : Core} {vL : Value} {ls : Nat} {lg : Bs} {vB : Value} {mb : Nat} {f : Nat → Nat} {ps : Nat → PG} {s : ByteArray} {gb : Nat} {p : PG} {st : Int} (h : LQ w T i b c co vL ls lg vB mb f ps s gb) (hc : goodC c = true) (ho : COk c co) (he : co.joinE s st 0 = 0) (hG : GM w T i co.names.length gb p) (hok : GOk c co p.core) :
    CM w T i b c { co with gs := co.gs ++ [(s, p.core)] } vL ls lg := by
  obtain ⟨e1, e2, e3, e4, e5⟩ := joinE_ok he
  have hnl : co.names.length = co.gs.length := by simp [Core.names]
  have hnm : ({ co with gs := co.gs ++ [(s, p.core)] } : Core).names = co.names ++ [s] := by simp [Core.names]
  refine ⟨hc, ⟨ho.d, ho.s, ho.k, ho.fl, ho.seg, ho.stop, ho.kept, ho.short, by simp; omega, ?_, fun x hx => ?_, fun q hq => ?_⟩, vB, mb, updN f co.names.length gb, updP ps co.names.length p, h.blk, h.sub, by rw [hnm]; exact h.nm, fun k q hq => ?_, h.row⟩
  · rw [hnm, List.nodup_append]
    refine ⟨ho.once, by simp, fun a ha b hb e => ?_⟩
    simp only [List.mem_singleton] at hb
    subst e
    rw [hb] at ha
    exact e2 ha
  · rw [hnm] at hx
    rcases List.mem_append.1 hx with hx | hx
    · exact ho.name x hx
    · simp at hx; rw [hx]; exact e1
  · rcases List.mem_append.1 hq with hq | hq
    · exact (ho.grp q hq).move rfl rfl
    · simp at hq
      subst hq
      exact hok.move rfl rfl
  · have hq' : (co.gs ++ [(s, p.core)])[k]? = some q := hq
    by_cases hk : k = co.names.length
    · subst hk
      rw [hnl, List.getElem?_append_right (Nat.le_refl _)] at hq'
      simp at hq'
      subst hq'
      simp only [updN, updP, if_true]
      exact ⟨hG, trivial⟩
    · have hkl : k < co.gs.length := by
        have := (List.getElem?_eq_some_iff.1 hq').1
        simp at this
        omega
      rw [List.getElem?_append_left hkl] at hq'
      simp only [updN, updP, if_neg hk]
      exact h.gm k q hq'

theorem loadTries_zero (d : Int) (o : Int) (g : CG) (r : Rd) : loadTries d 0 o g r = some (g, r) := rfl
theorem loadTries_none {d : Int} {n : Nat} {o : Int} {g : CG} {r : Rd} (h : g.setTries d o (r.num 1).1 = none) : loadTries d (n + 1) o g r = none := by simp [loadTries, h]
theorem loadTries_some {d : Int} {n : Nat} {o : Int} {g g' : CG} {r : Rd} (h : g.setTries d o (r.num 1).1 = some g') : loadTries d (n + 1) o g r = loadTries d n (o + 1) g' (r.num 1).2 := by simp [loadTries, h]
theorem lt2_xt {i K : Nat} (t : Tag) (h : LT2 i K t) : XT i t := by
  rcases h with h | rfl
  · exact sg_xt t h
  · exact ⟨rfl, rfl⟩

attribute [local go_sem] over_cell

set_option maxRecDepth 100000 in
set_option maxHeartbeats 4000000 in
theorem loadGroup_any (i b rb : Nat) (c : Conf) (co : Core) (vL : Value) (ls : Nat) (lg : Bs) (r : Rd) (cs : Array Value) (ty : TypeId) (w : World) (T : Nat → Tag) (h : CM w T i b c co vL ls lg) (hR : RdB w T (rT i) rb ty cs r) :
    Calls Tryz.prog 150 #[.pointer (some ⟨b, 0, none⟩), .pointer (some ⟨rb, 0, none⟩)] w fun e w' => ∃ T', Step (XT i) w T w' T' ∧
      repA (fun (x : Core × Rd) => CM w' T' i b c x.1 vL ls lg ∧ RdB w' T' (rT i) rb ty cs x.2) e (loadGroup c co r) := by
  obtain ⟨R, hRR⟩ : ∃ R, Hid (loadGroup c co r = R) := ⟨_, hide rfl⟩
  rw [hRR.out]
  have hst4 := h.ok.stop
  have hfl0 := h.ok.fl
  have hcok := h.ok
  have hgood := h.good
  have htx := text_any (rT i) rb ty cs r w T hR
  have hst16 := decN_small r.text.2 2
  go_enter Tryz.func150, Tryz.ntmps150
  go_wp2_with fail
  refine htx.mono ?_
  clear htx
  rintro e1 w1 ⟨rfl, s1, hR1⟩
  have hnu := num_any (rT i) rb ty cs r.text.2 w1 T hR1
  go_wp2_with fail
  refine hnu.mono ?_
  clear hnu
  rintro e2 w2 ⟨rfl, s2, hR2⟩
  have s02 := s1.trans s2
  have h2 := h.step s02 (fun r k hk hh => by simp at hh; omega)
  clear h hR hR1 s1 s2
  replace hRR : Hid (R = (bif decide (co.joinE (mkB r.text.1) (r.text.2.num 2).1 0 = 0) then
    match loadTries c.d (co.stop - co.first (startG co (r.text.2.num 2).1)).toNat (co.first (startG co (r.text.2.num 2).1)) (startG co (r.text.2.num 2).1) (r.text.2.num 2).2 with
    | none => none
    | some (g, r2) => match loadDeads c co (r2.num 2).1 g (r2.num 2).2 with
      | none => none
      | some (g', r3) => some ({ co with gs := co.gs ++ [(mkB r.text.1, g')] }, r3)
    else none)) := hide hRR.out.symm
  generalize mkB r.text.1 = s at *
  generalize (r.text.2.num 2).2 = r1 at *
  generalize (r.text.2.num 2).1 = st at *
  obtain ⟨_, _, vB, mb, f, ps, hB, hS, hN, hG, hL⟩ := h2
  have hsp : co.stop = co.floor + co.bodies.length := rfl
  have hnl : co.names.length = co.gs.length := by simp [Core.names]
  obtain ⟨n, hn⟩ : ∃ n : Nat, co.stop = n := ⟨co.stop.toNat, by omega⟩
  have eE : joinX co.names s st 0 n = co.joinE s st 0 := by
    unfold joinX Core.joinE
    rw [hn, hnl]
  obtain ⟨ao, cap, rfl, hS2⟩ := id hS
  have hj := join_any i b _ _ _ _ _ _ _ co.floor ao _ cap mb co.names f s st 0 n w2 T hB hN (by rw [hnl]; exact hcok.few) (fun s hs => (hcok.name s hs).2) hfl0 (by simp; omega) (by omega)
  rw [eE] at hj
  clear hS2
  go_wp2_with fail
  refine hj.mono ?_
  clear hj
  rintro e3 w3 ⟨rfl, (⟨hne, hb⟩ | ⟨he, gb, T3, s3, hN3, hG3⟩)⟩
  · have g3 := step_below (fun _ => False) T hb
    have er : Hid (R = none) := hide (by rw [hRR.out, decide_eq_false hne]; rfl)
    have s03 : Step (XT i) w T w3 T := (s02.mono (fun t h => by subst h; exact ⟨rfl, rfl⟩)).trans (g3.mono (fun _ h => h.elim))
    go_wp2
    go_ret
    exact ⟨T, s03, by rw [er.out]; rfl⟩
  · obtain ⟨e1, e2, e3, e4, e5⟩ := joinE_ok he
    rw [he]
    have s03 : Step (XT i) w T w3 T3 := (s02.mono (fun t h => by subst h; exact ⟨rfl, rfl⟩)).trans (s3.mono (fun t h => by subst h; exact ⟨rfl, rfl⟩))
    have Q3 : LQ w3 T3 i b c co vL ls lg (.slice ao (co.bodies.map Value.string).length cap) mb f ps s gb := ⟨hB.step s3 (by simp), hS.step s3 (by simp), hN3, fun k p hp => ⟨(hG k p hp).1.step s3 (fun r hr => by simp; omega), (hG k p hp).2⟩, hL.step s3 (by simp)⟩
    have hR3 := hR2.step s3 (by simp)
    have lks := Q3.nm.look (fun x hx => by
      rcases List.mem_append.1 hx with hx | hx
      · exact (hcok.name x hx).2
      · simp at hx; rw [hx]; exact e1.2) s
    have hix : idx s (co.names ++ [s]) = some co.names.length := by
      rw [idx_snoc, idx_none.2 e2]
      simp
    rw [hix] at lks
    simp only [Option.map_some, ptrO, ptrV, updN, if_true] at lks
    obtain ⟨gk1, gk2⟩ := gok_start hcok (st := st) (by omega) e5
    replace hRR : Hid (R = match loadTries c.d (co.stop - co.first (startG co st)).toNat (co.first (startG co st)) (startG co st) r1 with
      | none => none
      | some (g, r2) => match loadDeads c co (r2.num 2).1 g (r2.num 2).2 with
        | none => none
        | some (g', r3) => some ({ co with gs := co.gs ++ [(s, g')] }, r3)) := hide (by rw [hRR.out, decide_eq_true he]; rfl)
    clear hB hS hN hG hL hN3 hR2 s02 s3 hix
    -- what lies ahead of the floor is done
    have hfin : ∀ (hlt : (st : Int) < co.floor), Calls Tryz.prog 91 #[.pointer (some ⟨gb, 0, none⟩), .int .i64 st, .int .i64 (co.floor - 1)] w3 fun e w' => e = .returned (.tuple #[]) ∧ ∃ T', Step (SG i co.names.length) w3 T3 w' T' ∧ ∃ p, GM w' T' i co.names.length gb p ∧ p.core = startG co st := fun hlt => by
      obtain ⟨hi, hhi⟩ : ∃ hi : Nat, co.floor - 1 = hi := ⟨(co.floor - 1).toNat, by omega⟩
      rw [hhi]
      refine (finishR_any i co.names.length gb (newP st) st hi w3 T3 hG3 rfl (by omega) (by omega)).mono ?_
      rintro e w' ⟨rfl, T', s', hG'⟩
      refine ⟨rfl, T', s', _, hG', ?_⟩
      unfold startG
      rw [decide_eq_true hlt, hhi]
      rfl
    have c5 := Q3.blk.cell (j := 5) (v := .int .i64 co.floor) rfl
    have c7 := Q3.blk.cell (j := 7) (v := .map (some mb)) rfl
    have lb := Q3.blk.lt
    by_cases hlt : (st : Int) < co.floor
    · have hf3 := hfin hlt
      have hwr : IntKind.i64.wrap (co.floor - 1) = co.floor - 1 := by rw [IntWalk.i64_left, IntWalk.wrap64_in _ ⟨by omega, by omega⟩]
      clear hfin
      go_wp2_with fail
      refine hf3.mono ?_
      clear hf3
      rintro e4 w4 ⟨rfl, T4, s4, p4, hG4, hc4⟩
      have s34 : Step (LT2 i co.names.length) w3 T3 w4 T4 := s4.mono (fun _ h => .inl h)
      have hR4 := hR3.step s4 (by rintro ⟨r, hr, h⟩; simp at h; omega)
      have Q4 := Q3.step s34
      have s04 := s03.trans (s34.mono lt2_xt)
      clear Q3 hR3 hG3 s34 s4 s03 c5 c7 lb lks
      have c54 := Q4.blk.cell (j := 5) (v := .int .i64 co.floor) rfl
      have c64 := Q4.blk.cell (j := 6) rfl
      have lb4 := Q4.blk.lt
      have lg4 := hG4.lt
      have hst0 : p4.start = (startG co st).start := by rw [← hc4]; rfl
      have d04 := hG4.start
      have hfirst := qfirst_any b gb co.floor p4.start w4 lb4 lg4 c54 d04
      have efi : max co.floor p4.start = co.first (startG co st) := by rw [hst0]; rfl
      rw [efi] at hfirst
      rw [← hc4] at gk1 gk2 hRR hfirst
      go_wp2_with fail
      refine hfirst.mono ?_
      clear hfirst
      rintro e5 w5 ⟨rfl, hb5⟩
      have g5 := step_below (fun _ => False) T4 hb5
      have Q5 := Q4.step (g5.mono (fun _ h => h.elim))
      have hG5 := hG4.step g5 (fun _ _ h => h)
      have hR5 := hR4.step g5 (fun h => h)
      have s05 := s04.trans (g5.mono (fun _ h => h.elim))
      have hfr : 0 ≤ co.first p4.core ∧ co.first p4.core ≤ co.stop := by
        have := gk1.start
        unfold Core.first
        omega
      obtain ⟨o0, ho0⟩ : ∃ o0 : Nat, co.first p4.core = o0 := ⟨(co.first p4.core).toNat, by omega⟩
      rw [ho0] at gk2 hRR hfr
      rw [ho0]
      have hcs4 : p4.core.start = p4.start := rfl
      clear Q4 hG4 hR4 s04 c54 c64 lb4 lg4 d04 efi hst0 hc4 g5 hb5
      go_wp2_with fail
      go_loopw [8] (fun v wr => ∃ (o : Nat) (T' : Nat → Tag) (p : PG) (ro : Rd), o0 ≤ o ∧ (o : Int) ≤ co.stop ∧ v = .int .i64 o ∧ Step (XT i) w T wr T' ∧ LQ wr T' i b c co vL ls lg (.slice ao (co.bodies.map Value.string).length cap) mb f ps s gb ∧ GM wr T' i co.names.length gb p ∧ RdB wr T' (rT i) rb ty cs ro ∧ GOk c co p.core ∧ Hid ((∀ n, hasB p.core.done n = true → n < o) ∧ co.first p.core = o0) ∧ Hid (R = match loadTries c.d (co.stop - o).toNat o p.core ro with
            | none => none
            | some (g, r2) => match loadDeads c co (r2.num 2).1 g (r2.num 2).2 with
              | none => none
              | some (g', r3) => some ({ co with gs := co.gs ++ [(s, g')] }, r3))) (fun v _ => (co.stop - intOf v).toNat)
      case atStart => exact ⟨o0, T4, p4, r1, Nat.le_refl _, hfr.2, rfl, s05, Q5, hG5, hR5, gk1, hide ⟨gk2, ho0⟩, hRR⟩
      case round =>
        obtain ⟨o, T6, p6, r6, ho1, ho2, rfl, s6, Q6, hG6, hR6, gk6, hdn6, hR1⟩ := hrel
        clear Q5 hG5 hR5 s05 hRR gk1 gk2 hfr ho0 hcs4
        have c56 := Q6.blk.cell (j := 5) (v := .int .i64 co.floor) rfl
        have c66 := Q6.blk.cell (j := 6) (v := .slice ao (co.bodies.map Value.string).length cap) rfl
        rw [List.length_map] at c66
        have lb6 := Q6.blk.lt
        have hend := qend_any b co.floor ao co.bodies.length cap wr lb6 c56 c66 hfl0 (by omega) (by omega)
        rw [show co.floor + (co.bodies.length : Int) = co.stop from rfl] at hend
        go_wp2_with fail
        refine hend.mono ?_
        clear hend c56 c66 lb6
        rintro e7 w7 ⟨rfl, hb7⟩
        have g7 := step_below (fun _ => False) T6 hb7
        have Q7 := Q6.step (g7.mono (fun _ h => h.elim))
        have hG7 := hG6.step g7 (fun _ _ h => h)
        have hR7 := hR6.step g7 (fun h => h)
        have s7 := s6.trans (g7.mono (fun _ h => h.elim))
        clear Q6 hG6 hR6 s6 g7 hb7
        by_cases hlt7 : (o : Int) < co.stop
        · have gd := step_below (fun _ => False) T6 (Below.refl w7.heap.size w7).drew
          have Q7d := Q7.step (gd.mono (fun _ h => h.elim))
          have hG7d := hG7.step gd (fun _ _ h => h)
          have hR7d := hR7.step gd (fun h => h)
          have s7d := s7.trans (gd.mono (fun _ h => h.elim))
          have hsm := small_any (rT i) rb ty cs r6 w7.drew T6 hR7d
          have ht8 : (r6.num 1).1 < 256 := decN_small r6 1
          have hset := fun (w8 : World) (h : GM w8 T6 i co.names.length gb p6) => setTries_any i co.names.length gb p6 o (r6.num 1).1 c.d w8 T6 h gk6.set (by omega) ht8
          have c17 := Q7.blk.cell (j := 1) (v := .int .i64 c.d) rfl
          have lb7 := Q7.blk.lt
          obtain ⟨hdn6a, hdn6b⟩ := hdn6.out
          have hno : hasB p6.core.done o = false := by
            cases hh : hasB p6.core.done o
            · rfl
            · have := hdn6a o hh; omega
          have hsub : (co.stop - o).toNat = (co.stop - ((o + 1 : Nat) : Int)).toNat + 1 := by omega
          cases hse : p6.core.setTries c.d o (r6.num 1).1 with
          | none =>
            have er : Hid (R = none) := hide (by rw [hR1.out, hsub, loadTries_none hse])
            rw [hse] at hset
            clear hR1 gd Q7 hG7 hR7 s7 hdn6a hdn6b hsub
            go_wp2_with fail
            go_region_held3 (fun w' => w'.cell? ⟨b, 1, none⟩ = some (.int .i64 c.d)) (go_keep) (first
              | (go_at_call 151; refine hsm.mono ?_; clear hsm; rintro e8 w8 ⟨rfl, s8, hR8⟩; have Q8 := Q7d.step (s8.mono (fun _ h => .inr h)); have k1 := Q8.blk.cell (j := 1) (v := .int .i64 c.d) rfl; have k2 := Q8.blk.lt; have hG8 := hG7d.step s8 (fun r hr h => by simp at h; omega))
              | (go_at_call 158; refine (hset _ hG8).mono ?_; clear hset; rintro e9 w9 ⟨T9, s9, rfl⟩; have Q9 := Q8.step (s9.mono (fun _ h => .inl h)); have k3 := Q9.blk.cell (j := 1) (v := .int .i64 c.d) rfl; have k4 := Q9.blk.lt))
            all_goals
              have s09 := (s7d.trans (s8.mono (fun t h => by subst h; exact ⟨rfl, rfl⟩))).trans (s9.mono sg_xt)
              go_wp2
              go_ret
              exact ⟨T9, s09, by rw [er.out]; rfl⟩
          | some g' =>
            have hR9 : Hid (R = _) := hide (by rw [hR1.out, hsub, loadTries_some hse])
            rw [hse] at hset
            have gk9 := gok_tries gk6 hfl0 hst4 (by rw [hdn6b]; omega) hlt7 hno hse
            have hdn9 := done_tries gk6 (by omega) (by omega) hdn6a hse
            have hfi9 : co.first g' = o0 := by rw [← hdn6b]; unfold Core.first; rw [hdn9.2]
            have hdn9' : Hid ((∀ n, hasB g'.done n = true → n < ((o + 1 : Nat) : Int)) ∧ co.first g' = o0) := hide ⟨fun n hn => by have := hdn9.1 n hn; omega, hfi9⟩
            clear hR1 gd Q7 hG7 hR7 s7 hdn6a hdn6b hsub hdn9 hfi9
            go_wp2_with fail
            go_region_held3 (fun w' => w'.cell? ⟨b, 1, none⟩ = some (.int .i64 c.d)) (go_keep) (first
              | (go_at_call 151; refine hsm.mono ?_; clear hsm; rintro e8 w8 ⟨rfl, s8, hR8⟩; have Q8 := Q7d.step (s8.mono (fun _ h => .inr h)); have k1 := Q8.blk.cell (j := 1) (v := .int .i64 c.d) rfl; have k2 := Q8.blk.lt; have hG8 := hG7d.step s8 (fun r hr h => by simp at h; omega))
              | (go_at_call 158; refine (hset _ hG8).mono ?_; clear hset; rintro e9 w9 ⟨T9, s9, rfl, p9, hG9, hc9⟩; have Q9 := Q8.step (s9.mono (fun _ h => .inl h)); have k3 := Q9.blk.cell (j := 1) (v := .int .i64 c.d) rfl; have k4 := Q9.blk.lt))
            all_goals
              have s09 := (s7d.trans (s8.mono (fun t h => by subst h; exact ⟨rfl, rfl⟩))).trans (s9.mono sg_xt)
              have hR10 := hR8.step s9 (by rintro ⟨r, hr, h⟩; simp at h; omega)
              subst hc9
              have P10 := hide (And.intro s09 (And.intro Q9 (And.intro hG9 (And.intro hR10 (And.intro gk9 (And.intro hdn9' hR9))))))
              clear s09 Q9 hG9 hR10 gk9 hdn9' hR9 Q8 hG8 hR8 Q7d hG7d hR7d s7d s8 s9
              go_wp2
              exact ⟨⟨o + 1, T9, p9, _, by omega, by omega, by simp, P10.out.1, P10.out.2.1, P10.out.2.2.1, P10.out.2.2.2.1, P10.out.2.2.2.2.1, P10.out.2.2.2.2.2.1, P10.out.2.2.2.2.2.2⟩, by simp [intOf]; omega⟩
        · have hz : (co.stop - (o : Int)).toNat = 0 := by omega
          replace hR1 : Hid (R = match loadDeads c co (r6.num 2).1 p6.core (r6.num 2).2 with
              | none => none
              | some (g', r3) => some ({ co with gs := co.gs ++ [(s, g')] }, r3)) := hide (by rw [hR1.out, hz, loadTries_zero])
          have hnu := num_any (rT i) rb ty cs r6 w7 T6 hR7
          have hn2 := decN_small r6 2
          clear hz hdn6
          go_wp2_with fail
          refine hnu.mono ?_
          clear hnu
          rintro e8 w8 ⟨rfl, s8, hR8⟩
          have Q8 := Q7.step (s8.mono (fun _ h => .inr h))
          have hG8 := hG7.step s8 (fun r hr h => by simp at h; omega)
          have s08 := s7.trans (s8.mono (fun t h => by subst h; exact ⟨rfl, rfl⟩))
          clear Q7 hG7 hR7 s7 s8
          generalize (r6.num 2).2 = r8 at *
          generalize (r6.num 2).1 = n2 at *
          go_wp2_with fail
          go_loopw [60] (fun v wr => ∃ (j : Nat) (T' : Nat → Tag) (p : PG) (rj : Rd), j ≤ n2 ∧ v = .int .i64 j ∧ Step (XT i) w T wr T' ∧ LQ wr T' i b c co vL ls lg (.slice ao (co.bodies.map Value.string).length cap) mb f ps s gb ∧ GM wr T' i co.names.length gb p ∧ RdB wr T' (rT i) rb ty cs rj ∧ GOk c co p.core ∧ Hid (R = match loadDeads c co (n2 - j) p.core rj with
                | none => none
                | some (g', r3) => some ({ co with gs := co.gs ++ [(s, g')] }, r3))) (fun v _ => n2 - (intOf v).toNat)
          case atStart => exact ⟨0, T6, p6, r8, Nat.zero_le _, rfl, s08, Q8, hG8, hR8, gk6, hR1⟩
          case round =>
            obtain ⟨j, T9, p9, r9, hj, rfl, s9, Q9, hG9, hR9, gk9, hRj⟩ := hrel
            clear Q8 hG8 hR8 gk6 hR1 s08
            by_cases hjl : j < n2
            · have hld := loadDead_any i co.names.length b gb rb c co p9 r9 cs ty _ _ _ _ wr T9 Q9.blk Q9.sub hG9 hR9 gk9 hfl0 hst4
              have hsub : n2 - j = (n2 - (j + 1)) + 1 := by omega
              have hgd := fun h => gok_dead (o := ((r9.num 2).1 : Int)) (s := mkB (r9.num 2).2.text.1) gk9 h
              rw [hsub] at hRj
              unfold loadDeads at hRj
              cases hdo : deadOk co p9.core (r9.num 2).1 (mkB (r9.num 2).2.text.1)
              · rw [hdo] at hld hRj
                replace hRj : Hid (R = none) := hRj
                clear hgd
                go_wp2_with fail
                refine hld.mono ?_
                clear hld
                rintro e10 w10 ⟨T10, s10, rfl⟩
                have s010 := s9.trans (s10.mono (fun t h => lt2_xt t h))
                go_wp2
                go_ret
                exact ⟨T10, s010, by rw [hRj.out]; rfl⟩
              · rw [hdo] at hld hRj
                have gk10 := hgd hdo
                clear hgd
                replace hRj := hide hRj.out
                go_wp2_with fail
                refine hld.mono ?_
                clear hld
                rintro e10 w10 ⟨T10, s10, rfl, ⟨p10, hG10, hc10⟩, hR10⟩
                replace hc10 : p10.core = { p9.core with dead := p9.core.dead ++ [⟨(r9.num 2).1, c.d, mkB (r9.num 2).2.text.1⟩] } := hc10
                rw [← hc10] at gk10
                have Q10 := Q9.step s10
                have s010 := s9.trans (s10.mono (fun t h => lt2_xt t h))
                simp only [cond_true] at hRj
                rw [← hc10] at hRj
                have P10 := hide (And.intro s010 (And.intro Q10 (And.intro hG10 (And.intro hR10 (And.intro gk10 hRj)))))
                clear s010 Q10 hG10 hR10 gk10 hRj Q9 hG9 hR9 gk9 s9 s10 hsub
                go_wp2
                exact ⟨⟨j + 1, T10, p10, _, by omega, by simp, P10.out.1, P10.out.2.1, P10.out.2.2.1, P10.out.2.2.2.1, P10.out.2.2.2.2.1, P10.out.2.2.2.2.2⟩, by simp [intOf]; omega⟩
            · have hz : n2 - j = 0 := by omega
              have hRf : Hid (R = some ({ co with gs := co.gs ++ [(s, p9.core)] }, r9)) := hide (by rw [hRj.out, hz]; rfl)
              have hCM := Q9.cm hgood hcok he hG9 gk9
              clear hRj Q9 hG9 gk9 hz
              go_wp2
              go_ret
              exact ⟨T9, s9, by rw [hRf.out]; exact ⟨rfl, hCM, hR9⟩⟩
    · have hc4 : (newP st).core = startG co st := by unfold startG; rw [decide_eq_false hlt]; rfl
      have hG4 := hG3
      have hR4 := hR3
      have Q4 := Q3
      have s04 := s03
      have hd0 : decide ((st : Int) < co.floor) = false := decide_eq_false hlt
      clear hfin Q3 hR3 hG3 s03
      generalize hpp : newP st = p4 at *
      generalize hww : w3 = w4 at *
      generalize htt : T3 = T4 at *
      clear hpp hww htt
      have c54 := Q4.blk.cell (j := 5) (v := .int .i64 co.floor) rfl
      have c64 := Q4.blk.cell (j := 6) rfl
      have lb4 := Q4.blk.lt
      have lg4 := hG4.lt
      have hst0 : p4.start = (startG co st).start := by rw [← hc4]; rfl
      have d04 := hG4.start
      have hfirst := qfirst_any b gb co.floor p4.start w4 lb4 lg4 c54 d04
      have efi : max co.floor p4.start = co.first (startG co st) := by rw [hst0]; rfl
      rw [efi] at hfirst
      rw [← hc4] at gk1 gk2 hRR hfirst
      go_wp2_with fail
      refine hfirst.mono ?_
      clear hfirst
      rintro e5 w5 ⟨rfl, hb5⟩
      have g5 := step_below (fun _ => False) T4 hb5
      have Q5 := Q4.step (g5.mono (fun _ h => h.elim))
      have hG5 := hG4.step g5 (fun _ _ h => h)
      have hR5 := hR4.step g5 (fun h => h)
      have s05 := s04.trans (g5.mono (fun _ h => h.elim))
      have hfr : 0 ≤ co.first p4.core ∧ co.first p4.core ≤ co.stop := by
        have := gk1.start
        unfold Core.first
        omega
      obtain ⟨o0, ho0⟩ : ∃ o0 : Nat, co.first p4.core = o0 := ⟨(co.first p4.core).toNat, by omega⟩
      rw [ho0] at gk2 hRR hfr
      rw [ho0]
      have hcs4 : p4.core.start = p4.start := rfl
      clear Q4 hG4 hR4 s04 c54 c64 lb4 lg4 d04 efi hst0 hc4 g5 hb5
      go_wp2_with fail
      go_loopw [8] (fun v wr => ∃ (o : Nat) (T' : Nat → Tag) (p : PG) (ro : Rd), o0 ≤ o ∧ (o : Int) ≤ co.stop ∧ v = .int .i64 o ∧ Step (XT i) w T wr T' ∧ LQ wr T' i b c co vL ls lg (.slice ao (co.bodies.map Value.string).length cap) mb f ps s gb ∧ GM wr T' i co.names.length gb p ∧ RdB wr T' (rT i) rb ty cs ro ∧ GOk c co p.core ∧ Hid ((∀ n, hasB p.core.done n = true → n < o) ∧ co.first p.core = o0) ∧ Hid (R = match loadTries c.d (co.stop - o).toNat o p.core ro with
            | none => none
            | some (g, r2) => match loadDeads c co (r2.num 2).1 g (r2.num 2).2 with
              | none => none
              | some (g', r3) => some ({ co with gs := co.gs ++ [(s, g')] }, r3))) (fun v _ => (co.stop - intOf v).toNat)
      case atStart => exact ⟨o0, T4, p4, r1, Nat.le_refl _, hfr.2, rfl, s05, Q5, hG5, hR5, gk1, hide ⟨gk2, ho0⟩, hRR⟩
      case round =>
        obtain ⟨o, T6, p6, r6, ho1, ho2, rfl, s6, Q6, hG6, hR6, gk6, hdn6, hR1⟩ := hrel
        clear Q5 hG5 hR5 s05 hRR gk1 gk2 hfr ho0 hcs4
        have c56 := Q6.blk.cell (j := 5) (v := .int .i64 co.floor) rfl
        have c66 := Q6.blk.cell (j := 6) (v := .slice ao (co.bodies.map Value.string).length cap) rfl
        rw [List.length_map] at c66
        have lb6 := Q6.blk.lt
        have hend := qend_any b co.floor ao co.bodies.length cap wr lb6 c56 c66 hfl0 (by omega) (by omega)
        rw [show co.floor + (co.bodies.length : Int) = co.stop from rfl] at hend
        go_wp2_with fail
        refine hend.mono ?_
        clear hend c56 c66 lb6
        rintro e7 w7 ⟨rfl, hb7⟩
        have g7 := step_below (fun _ => False) T6 hb7
        have Q7 := Q6.step (g7.mono (fun _ h => h.elim))
        have hG7 := hG6.step g7 (fun _ _ h => h)
        have hR7 := hR6.step g7 (fun h => h)
        have s7 := s6.trans (g7.mono (fun _ h => h.elim))
        clear Q6 hG6 hR6 s6 g7 hb7
        by_cases hlt7 : (o : Int) < co.stop
        · have gd := step_below (fun _ => False) T6 (Below.refl w7.heap.size w7).drew
          have Q7d := Q7.step (gd.mono (fun _ h => h.elim))
          have hG7d := hG7.step gd (fun _ _ h => h)
          have hR7d := hR7.step gd (fun h => h)
          have s7d := s7.trans (gd.mono (fun _ h => h.elim))
          have hsm := small_any (rT i) rb ty cs r6 w7.drew T6 hR7d
          have ht8 : (r6.num 1).1 < 256 := decN_small r6 1
          have hset := fun (w8 : World) (h : GM w8 T6 i co.names.length gb p6) => setTries_any i co.names.length gb p6 o (r6.num 1).1 c.d w8 T6 h gk6.set (by omega) ht8
          have c17 := Q7.blk.cell (j := 1) (v := .int .i64 c.d) rfl
          have lb7 := Q7.blk.lt
          obtain ⟨hdn6a, hdn6b⟩ := hdn6.out
          have hno : hasB p6.core.done o = false := by
            cases hh : hasB p6.core.done o
            · rfl
            · have := hdn6a o hh; omega
          have hsub : (co.stop - o).toNat = (co.stop - ((o + 1 : Nat) : Int)).toNat + 1 := by omega
          cases hse : p6.core.setTries c.d o (r6.num 1).1 with
          | none =>
            have er : Hid (R = none) := hide (by rw [hR1.out, hsub, loadTries_none hse])
            rw [hse] at hset
            clear hR1 gd Q7 hG7 hR7 s7 hdn6a hdn6b hsub
            go_wp2_with fail
            go_region_held3 (fun w' => w'.cell? ⟨b, 1, none⟩ = some (.int .i64 c.d)) (go_keep) (first
              | (go_at_call 151; refine hsm.mono ?_; clear hsm; rintro e8 w8 ⟨rfl, s8, hR8⟩; have Q8 := Q7d.step (s8.mono (fun _ h => .inr h)); have k1 := Q8.blk.cell (j := 1) (v := .int .i64 c.d) rfl; have k2 := Q8.blk.lt; have hG8 := hG7d.step s8 (fun r hr h => by simp at h; omega))
              | (go_at_call 158; refine (hset _ hG8).mono ?_; clear hset; rintro e9 w9 ⟨T9, s9, rfl⟩; have Q9 := Q8.step (s9.mono (fun _ h => .inl h)); have k3 := Q9.blk.cell (j := 1) (v := .int .i64 c.d) rfl; have k4 := Q9.blk.lt))
            all_goals
              have s09 := (s7d.trans (s8.mono (fun t h => by subst h; exact ⟨rfl, rfl⟩))).trans (s9.mono sg_xt)
              go_wp2
              go_ret
              exact ⟨T9, s09, by rw [er.out]; rfl⟩
          | some g' =>
            have hR9 : Hid (R = _) := hide (by rw [hR1.out, hsub, loadTries_some hse])
            rw [hse] at hset
            have gk9 := gok_tries gk6 hfl0 hst4 (by rw [hdn6b]; omega) hlt7 hno hse
            have hdn9 := done_tries gk6 (by omega) (by omega) hdn6a hse
            have hfi9 : co.first g' = o0 := by rw [← hdn6b]; unfold Core.first; rw [hdn9.2]
            have hdn9' : Hid ((∀ n, hasB g'.done n = true → n < ((o + 1 : Nat) : Int)) ∧ co.first g' = o0) := hide ⟨fun n hn => by have := hdn9.1 n hn; omega, hfi9⟩
            clear hR1 gd Q7 hG7 hR7 s7 hdn6a hdn6b hsub hdn9 hfi9
            go_wp2_with fail
            go_region_held3 (fun w' => w'.cell? ⟨b, 1, none⟩ = some (.int .i64 c.d)) (go_keep) (first
              | (go_at_call 151; refine hsm.mono ?_; clear hsm; rintro e8 w8 ⟨rfl, s8, hR8⟩; have Q8 := Q7d.step (s8.mono (fun _ h => .inr h)); have k1 := Q8.blk.cell (j := 1) (v := .int .i64 c.d) rfl; have k2 := Q8.blk.lt; have hG8 := hG7d.step s8 (fun r hr h => by simp at h; omega))
              | (go_at_call 158; refine (hset _ hG8).mono ?_; clear hset; rintro e9 w9 ⟨T9, s9, rfl, p9, hG9, hc9⟩; have Q9 := Q8.step (s9.mono (fun _ h => .inl h)); have k3 := Q9.blk.cell (j := 1) (v := .int .i64 c.d) rfl; have k4 := Q9.blk.lt))
            all_goals
              have s09 := (s7d.trans (s8.mono (fun t h => by subst h; exact ⟨rfl, rfl⟩))).trans (s9.mono sg_xt)
              have hR10 := hR8.step s9 (by rintro ⟨r, hr, h⟩; simp at h; omega)
              subst hc9
              have P10 := hide (And.intro s09 (And.intro Q9 (And.intro hG9 (And.intro hR10 (And.intro gk9 (And.intro hdn9' hR9))))))
              clear s09 Q9 hG9 hR10 gk9 hdn9' hR9 Q8 hG8 hR8 Q7d hG7d hR7d s7d s8 s9
              go_wp2
              exact ⟨⟨o + 1, T9, p9, _, by omega, by omega, by simp, P10.out.1, P10.out.2.1, P10.out.2.2.1, P10.out.2.2.2.1, P10.out.2.2.2.2.1, P10.out.2.2.2.2.2.1, P10.out.2.2.2.2.2.2⟩, by simp [intOf]; omega⟩
        · have hz : (co.stop - (o : Int)).toNat = 0 := by omega
          replace hR1 : Hid (R = match loadDeads c co (r6.num 2).1 p6.core (r6.num 2).2 with
              | none => none
              | some (g', r3) => some ({ co with gs := co.gs ++ [(s, g')] }, r3)) := hide (by rw [hR1.out, hz, loadTries_zero])
          have hnu := num_any (rT i) rb ty cs r6 w7 T6 hR7
          have hn2 := decN_small r6 2
          clear hz hdn6
          go_wp2_with fail
          refine hnu.mono ?_
          clear hnu
          rintro e8 w8 ⟨rfl, s8, hR8⟩
          have Q8 := Q7.step (s8.mono (fun _ h => .inr h))
          have hG8 := hG7.step s8 (fun r hr h => by simp at h; omega)
          have s08 := s7.trans (s8.mono (fun t h => by subst h; exact ⟨rfl, rfl⟩))
          clear Q7 hG7 hR7 s7 s8
          generalize (r6.num 2).2 = r8 at *
          generalize (r6.num 2).1 = n2 at *
          go_wp2_with fail
          go_loopw [60] (fun v wr => ∃ (j : Nat) (T' : Nat → Tag) (p : PG) (rj : Rd), j ≤ n2 ∧ v = .int .i64 j ∧ Step (XT i) w T wr T' ∧ LQ wr T' i b c co vL ls lg (.slice ao (co.bodies.map Value.string).length cap) mb f ps s gb ∧ GM wr T' i co.names.length gb p ∧ RdB wr T' (rT i) rb ty cs rj ∧ GOk c co p.core ∧ Hid (R = match loadDeads c co (n2 - j) p.core rj with
                | none => none
                | some (g', r3) => some ({ co with gs := co.gs ++ [(s, g')] }, r3))) (fun v _ => n2 - (intOf v).toNat)
          case atStart => exact ⟨0, T6, p6, r8, Nat.zero_le _, rfl, s08, Q8, hG8, hR8, gk6, hR1⟩
          case round =>
            obtain ⟨j, T9, p9, r9, hj, rfl, s9, Q9, hG9, hR9, gk9, hRj⟩ := hrel
            clear Q8 hG8 hR8 gk6 hR1 s08
            by_cases hjl : j < n2
            · have hld := loadDead_any i co.names.length b gb rb c co p9 r9 cs ty _ _ _ _ wr T9 Q9.blk Q9.sub hG9 hR9 gk9 hfl0 hst4
              have hsub : n2 - j = (n2 - (j + 1)) + 1 := by omega
              have hgd := fun h => gok_dead (o := ((r9.num 2).1 : Int)) (s := mkB (r9.num 2).2.text.1) gk9 h
              rw [hsub] at hRj
              unfold loadDeads at hRj
              cases hdo : deadOk co p9.core (r9.num 2).1 (mkB (r9.num 2).2.text.1)
              · rw [hdo] at hld hRj
                replace hRj : Hid (R = none) := hRj
                clear hgd
                go_wp2_with fail
                refine hld.mono ?_
                clear hld
                rintro e10 w10 ⟨T10, s10, rfl⟩
                have s010 := s9.trans (s10.mono (fun t h => lt2_xt t h))
                go_wp2
                go_ret
                exact ⟨T10, s010, by rw [hRj.out]; rfl⟩
              · rw [hdo] at hld hRj
                have gk10 := hgd hdo
                clear hgd
                replace hRj := hide hRj.out
                go_wp2_with fail
                refine hld.mono ?_
                clear hld
                rintro e10 w10 ⟨T10, s10, rfl, ⟨p10, hG10, hc10⟩, hR10⟩
                replace hc10 : p10.core = { p9.core with dead := p9.core.dead ++ [⟨(r9.num 2).1, c.d, mkB (r9.num 2).2.text.1⟩] } := hc10
                rw [← hc10] at gk10
                have Q10 := Q9.step s10
                have s010 := s9.trans (s10.mono (fun t h => lt2_xt t h))
                simp only [cond_true] at hRj
                rw [← hc10] at hRj
                have P10 := hide (And.intro s010 (And.intro Q10 (And.intro hG10 (And.intro hR10 (And.intro gk10 hRj)))))
                clear s010 Q10 hG10 hR10 gk10 hRj Q9 hG9 hR9 gk9 s9 s10 hsub
                go_wp2
                exact ⟨⟨j + 1, T10, p10, _, by omega, by simp, P10.out.1, P10.out.2.1, P10.out.2.2.1, P10.out.2.2.2.1, P10.out.2.2.2.2.1, P10.out.2.2.2.2.2⟩, by simp [intOf]; omega⟩
            · have hz : n2 - j = 0 := by omega
              have hRf : Hid (R = some ({ co with gs := co.gs ++ [(s, p9.core)] }, r9)) := hide (by rw [hRj.out, hz]; rfl)
              have hCM := Q9.cm hgood hcok he hG9 gk9
              clear hRj Q9 hG9 gk9 hz
              go_wp2
              go_ret
              exact ⟨T9, s9, by rw [hRf.out]; exact ⟨rfl, hCM, hR9⟩⟩

end Go.Proofs.YtockkceclkcgbaaGreatDoor

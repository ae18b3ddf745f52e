/- A message that is dead to a group, read of a snapshot: loadDead. -/
import Derived.Test.YtockkceclkcgbaaGreatDoorB39
namespace Go.Proofs.YtockkceclkcgbaaGreatDoor
open Go.RowKit Go.Maps

attribute [local go_sem] over_cell

/-- the block that a delivery is laid in -/
abbrev dZ : Obj := .cells #[.int .i64 0, .int .i64 0, .string ⟨#[]⟩] 82

theorem dead_laid {w w2 : World} {T T2 : Nat → Tag} {t : Tag} {db rb : Nat} {ty : TypeId} {cs : Array Value} {r : Rd} (htf : t ≠ .free) (hs : Step (fun s => s = t) w T w2 T2) (hd : w.heap.size ≤ db) (hB : Blk w2 T2 .free db #[.int .i64 0, .int .i64 0, .string ⟨#[]⟩] 82) (hR : RdB w2 T2 t rb ty cs r) (a b : Int) (s : ByteArray) :
    ∃ T', Step (fun s => s = t) w T (((w2.setCell ⟨db, 0, none⟩ (.int .i64 a)).setCell ⟨db, 1, none⟩ (.int .i64 b)).setCell ⟨db, 2, none⟩ (.string s)) T' ∧ Blk (((w2.setCell ⟨db, 0, none⟩ (.int .i64 a)).setCell ⟨db, 1, none⟩ (.int .i64 b)).setCell ⟨db, 2, none⟩ (.string s)) T' .free db #[.int .i64 a, .int .i64 b, .string s] 82 ∧ RdB (((w2.setCell ⟨db, 0, none⟩ (.int .i64 a)).setCell ⟨db, 1, none⟩ (.int .i64 b)).setCell ⟨db, 2, none⟩ (.string s)) T' t rb ty cs r :=
  ⟨T2, ((hs.setNew hd _ _).setNew hd _ _).setNew hd _ _, ((hB.set 0 (.int .i64 a)).set 1 (.int .i64 b)).set 2 (.string s),
    hR.step (((step_setCell w2 T2 db 0 _ (S := fun s => s = .free) hB.1).trans (step_setCell _ T2 db 1 _ (S := fun s => s = .free) hB.1)).trans (step_setCell _ T2 db 2 _ (S := fun s => s = .free) hB.1)) htf⟩
theorem dead_new {w w2 : World} {T T2 : Nat → Tag} {t : Tag} {rb : Nat} {ty : TypeId} {cs : Array Value} {r : Rd} (hs : Step (fun s => s = t) w T w2 T2) (hR : RdB w2 T2 t rb ty cs r) (a b : Int) (s : ByteArray) :
    ∃ T', Step (fun s => s = t) w T (w2.alloc (.cells #[.int .i64 a, .int .i64 b, .string s] 82)) T' ∧ Blk (w2.alloc (.cells #[.int .i64 a, .int .i64 b, .string s] 82)) T' .free w2.heap.size #[.int .i64 a, .int .i64 b, .string s] 82 ∧ RdB (w2.alloc (.cells #[.int .i64 a, .int .i64 b, .string s] 82)) T' t rb ty cs r := by
  have sn := step_new w2 T2 (.cells #[.int .i64 a, .int .i64 b, .string s] 82) .free (fun _ => False)
  exact ⟨_, hs.trans (sn.mono (fun _ h => h.elim)), blk_new w2 T2 #[.int .i64 a, .int .i64 b, .string s] 82 .free, hR.step sn (fun h => h)⟩

theorem dead_append (i k gb : Nat) (p : PG) (n tr : Int) (s : ByteArray) (w : World) (T : Nat → Tag) (eo : Option Addr) (ecap : Nat) (vD : Value) (tb wb : Nat)
    (hBg : Blk w T (.q i 3 k) gb #[.int .i64 p.start, vD, .slice eo p.dead.length ecap, .map (some tb), .map (some wb)] 134) (hD : Row w T (.q i 4 k) 69 2 vD p.done.length (flat p.done))
    (hE : Row w T (.q i 5 k) 82 3 (.slice eo p.dead.length ecap) p.dead.length (dlVals p.dead)) (hT : TM w T (.q i 6 k) tb p.tr) (hW : WM w T (.q i 7 k) wb p.wt) (hdl : p.dead.length ≤ 4000) :
    ∃ g6 cap6 w6 T6, (Builtin.append_ #[77, 77] 77 #[.slice eo p.dead.length ecap, .slice (some ⟨w.heap.size, 0, none⟩) 1 1]).run Tryz.prog (w.drew.alloc (.cells #[.int .i64 n, .int .i64 tr, .string s] 82)) = .ok (.slice (some ⟨g6, 0, none⟩) (p.dead.length + 1) cap6) w6 ∧
      w6.cell? ⟨gb, 2, none⟩ = some (.slice eo p.dead.length ecap) ∧ w6.frozen? ⟨gb, 2, none⟩ = false ∧
      Step (SG i k) w T (w6.setCell ⟨gb, 2, none⟩ (.slice (some ⟨g6, 0, none⟩) (p.dead.length + 1) cap6)) T6 ∧ GM (w6.setCell ⟨gb, 2, none⟩ (.slice (some ⟨g6, 0, none⟩) (p.dead.length + 1) cap6)) T6 i k gb (buryP p ⟨n, tr, s⟩) := by
  have hdr := step_below (fun _ => False) T (Below.refl w.heap.size w).drew
  obtain ⟨i0, hi, hz0, hz1, hz2⟩ := info_parts info71d
  have hal := step_alloc w.drew T (.cells #[.int .i64 n, .int .i64 tr, .string s] 82) (fun _ => False)
  have hsa := hdr.trans hal
  have hBa := hBg.step hsa (fun h => h)
  obtain ⟨g6, cap6, w6, T6, hrun6, hR6, hs6⟩ := run_append_row (P := Tryz.prog) (tg := .q i 5 k) 77 77 82 i0 _ 3 32 Tryz.underlying77 hi hz0 hz1 hz2 rfl (by decide) _ _ _ (hE.step hsa (fun h => h)) ⟨w.drew.heap.size, 0, none⟩ 1 1 [.int .i64 n, .int .i64 tr, .string s] rfl
    (cells_new5 w.drew [.int .i64 n, .int .i64 tr, .string s] 82) (by simp [Value.oneCell']) (by decide) (by unfold maxLen; omega) (by omega)
  have hB6 := hBa.step hs6 (by simp)
  have hs7 : Step (fun t => t = .q i 3 k) w6 T6 (w6.setCell ⟨gb, 2, none⟩ (.slice (some ⟨g6, 0, none⟩) (p.dead.length + 1) cap6)) T6 := step_setCell _ _ _ _ _ hB6.1
  refine ⟨g6, cap6, w6, T6, hrun6, hB6.cell (j := 2) rfl, hB6.frozen 2, ?_, ?_⟩
  · exact (hsa.mono (fun _ h => h.elim)).trans ((hs6.mono (fun t ht => ⟨5, by decide, ht⟩)).trans (hs7.mono (fun t ht => ⟨3, by decide, ht⟩)))
  · refine ⟨vD, _, tb, wb, hB6.set 2 _, ((hD.step hsa (fun h => h)).step hs6 (by simp)).step hs7 (by simp), ?_, ((hT.step hsa (fun h => h)).step hs6 (by simp)).step hs7 (by simp), ((hW.step hsa (fun h => h)).step hs6 (by simp)).step hs7 (by simp)⟩
    have := hR6.step hs7 (by simp)
    simpa [buryP, dlVals_append, dlVals] using this

/-- the tag of a reader -/
abbrev rT (i : Nat) : Tag := .q i 0 5

set_option maxRecDepth 100000 in
set_option maxHeartbeats 4000000 in
theorem loadDead_any (i k b gb rb : Nat) (c : Conf) (co : Core) (p : PG) (r : Rd) (cs : Array Value) (ty : TypeId) (vB vM vL vS : Value) (w : World) (T : Nat → Tag)
    (hB : Blk w T (.q i 0 0) b #[.int .i64 c.l, .int .i64 c.d, .int .i64 c.s, .int .i64 c.k, .int .i64 0, .int .i64 co.floor, vB, vM, vL, vS] 105) (hS : Sub w T (.q i 1 0) vB (co.bodies.map .string)) (hG : GM w T i k gb p) (hR : RdB w T (rT i) rb ty cs r) (hok : GOk c co p.core) (hfl : 0 ≤ co.floor) (hst : co.stop ≤ 400) :
    Calls Tryz.prog 159 #[.pointer (some ⟨b, 0, none⟩), .pointer (some ⟨rb, 0, none⟩), .pointer (some ⟨gb, 0, none⟩)] w fun e w' => ∃ T', Step (fun s => SG i k s ∨ s = rT i) w T w' T' ∧
      repA (fun (x : CG × Rd) => (∃ p', GM w' T' i k gb p' ∧ p'.core = x.1) ∧ RdB w' T' (rT i) rb ty cs x.2) e (bif deadOk co p.core (r.num 2).1 (mkB (r.num 2).2.text.1) then some ({ p.core with dead := p.core.dead ++ [⟨(r.num 2).1, c.d, mkB (r.num 2).2.text.1⟩] }, (r.num 2).2.text.2) else none) := by
  have htf : rT i ≠ .free := by simp
  have lq := hB.lt
  have q1 := hB.cell (j := 1) (v := .int .i64 c.d) rfl
  have htq : T b ≠ rT i := by rw [hB.1]; simp
  obtain ⟨t, ht⟩ : ∃ t, Hid (rT i = t) := ⟨_, hide rfl⟩
  obtain ⟨R, hRR⟩ : ∃ R, Hid ((bif deadOk co p.core (r.num 2).1 (mkB (r.num 2).2.text.1) then some (({ p.core with dead := p.core.dead ++ [⟨(r.num 2).1, c.d, mkB (r.num 2).2.text.1⟩] } : CG), (r.num 2).2.text.2) else none) = R) := ⟨_, hide rfl⟩
  rw [hRR.out]
  rw [ht.out] at hR htf htq
  have gd := step_below (fun _ => False) T (Below.refl w.heap.size w).drew
  have hR0 := hR.step gd (fun h => h)
  have lq0 : b < w.drew.heap.size := lq
  have hnum := fun (w1 : World) (T1 : Nat → Tag) (h : RdB w1 T1 t rb ty cs r) => num_any t rb ty cs r w1 T1 h
  have htext := fun (w1 : World) (T1 : Nat → Tag) (h : RdB w1 T1 t rb ty cs (r.num 2).2) => text_any t rb ty cs (r.num 2).2 w1 T1 h
  have hq1 : ∀ (w1 : World) (T1 : Nat → Tag) , Step (fun s => s = t) w T w1 T1 → w1.cell? ⟨b, 1, none⟩ = some (.int .i64 c.d) := fun w1 T1 hs => (hs.cell (p := ⟨b, 1, none⟩) lq htq).trans q1
  have nq : ∀ (w1 : World) (T1 : Nat → Tag) , Step (fun s => s = t) w T w1 T1 → b < w1.heap.size ∧ ¬ w1.heap.size = b ∧ ¬ b = w1.heap.size := fun w1 T1 hs => by have := hs.size; omega
  have nq0 : ¬ w.heap.size = b ∧ ¬ b = w.heap.size := by omega
  have hsmall := decN_small r 2
  go_enter Tryz.func159, Tryz.ntmps159
  go_wp2_with fail
  go_cut [7] from 8 to 17 (fun v w' => ∃ db, v = .pointer (some ⟨db, 0, none⟩) ∧ w.heap.size ≤ db ∧ ∃ T', Step (fun s => s = t) w T w' T' ∧ Blk w' T' .free db #[.int .i64 (r.num 2).1, .int .i64 c.d, .string (mkB (r.num 2).2.text.1)] 82 ∧ RdB w' T' t rb ty cs (r.num 2).2.text.2)
  case first =>
    clear hR hB hS hG hok hRR
    go_region_law (go_simp; first
      | (go_at_call 149; first
          | (refine (hnum _ _ hR0).mono ?_; clear hnum; rintro e1 w1 ⟨rfl, s1, h1⟩; have s01 := (gd.mono (fun _ h => (h.elim : _ = t))).trans s1; have k1 := hq1 _ _ s01; have n1 := nq _ _ s01)
          | (refine (hnum _ _ (hR0.step (step_new w.drew T dZ .free (fun _ => False)) (fun h => h))).mono ?_; clear hnum; rintro e1 w1 ⟨rfl, s1, h1⟩; have s01 := ((gd.trans (step_new w.drew T dZ .free (fun _ => False))).mono (fun _ h => (h.elim : _ = t))).trans s1; have k1 := hq1 _ _ s01; have n1 := nq _ _ s01; have bk1 : Blk w1 (retag T w.heap.size .free) .free w.heap.size #[.int .i64 0, .int .i64 0, .string ⟨#[]⟩] 82 := (blk_new w.drew T #[.int .i64 0, .int .i64 0, .string ⟨#[]⟩] 82 .free).step s1 (fun h => htf h.symm)))
      | (go_at_call 129; first
          | (refine (htext _ _ h1).mono ?_; clear htext; rintro e2 w2 ⟨rfl, s2, h2⟩; have s02 := s01.trans s2; have k2 := hq1 _ _ s02; have n2 := nq _ _ s02; first | (have bk2 := bk1.step s2 (fun h => htf h.symm); have z0 := bk2.frozen 0; have z1 := bk2.frozen 1; have z2 := bk2.frozen 2; have y0 := bk2.cell (j := 0) rfl; have y1 := bk2.cell (j := 1) rfl; have y2 := bk2.cell (j := 2) rfl; have yl := bk2.lt; simp only [List.getElem_toArray, List.getElem_cons_succ, List.getElem_cons_zero] at y0 y1 y2) | (have bk2 := blk_new w2 T #[.int .i64 0, .int .i64 0, .string ⟨#[]⟩] 82 .free; have z0 := bk2.frozen 0; have z1 := bk2.frozen 1; have z2 := bk2.frozen 2; have y0 := bk2.cell (j := 0) rfl; have y1 := bk2.cell (j := 1) rfl; have y2 := bk2.cell (j := 2) rfl; have yl := bk2.lt; simp only [List.getElem_toArray, List.getElem_cons_succ, List.getElem_cons_zero] at y0 y1 y2))
          | (refine (htext _ _ (h1.step (step_new w1 _ dZ .free (fun _ => False)) (fun h => h))).mono ?_; clear htext; rintro e2 w2 ⟨rfl, s2, h2⟩; have s02 := (s01.trans ((step_new w1 _ dZ .free (fun _ => False)).mono (fun _ h => (h.elim : _ = t)))).trans s2; have k2 := hq1 _ _ s02; have n2 := nq _ _ s02; have bk2 := (blk_new w1 _ #[.int .i64 0, .int .i64 0, .string ⟨#[]⟩] 82 .free).step s2 (fun h => htf h.symm); have z0 := bk2.frozen 0; have z1 := bk2.frozen 1; have z2 := bk2.frozen 2; have y0 := bk2.cell (j := 0) rfl; have y1 := bk2.cell (j := 1) rfl; have y2 := bk2.cell (j := 2) rfl; have yl := bk2.lt; simp only [List.getElem_toArray, List.getElem_cons_succ, List.getElem_cons_zero] at y0 y1 y2)))
    all_goals
      go_wp2_with fail
      go_meet
      first
        | exact ⟨_, rfl, s02.size, dead_new s02 h2 _ _ _⟩
        | exact ⟨_, rfl, Nat.le_refl _, dead_laid htf s02 (Nat.le_refl _) bk2 h2 _ _ _⟩
        | exact ⟨_, rfl, s01.size, dead_laid htf s02 s01.size bk2 h2 _ _ _⟩
  case rest =>
    obtain ⟨db, rfl, hdb, T3, s3, hO, hR3⟩ := hcut
    clear hnum htext hq1 nq nq0 hR0 gd lq0 q1 htq lq hR
    have hsz : (mkB (r.num 2).2.text.1).size ≤ 255 := by
      rw [mkB_size]
      have := decN_small (r.num 2).2 1
      unfold Rd.text Rd.take
      split
      · simp
      · simp; omega
    generalize hrt : (r.num 2).2.text.2 = r2 at *
    generalize hsx : mkB (r.num 2).2.text.1 = sx at *
    generalize hox : (r.num 2).1 = off at *
    clear hrt hsx hox
    generalize wc = w3 at *
    rw [← ht.out] at s3 hR3
    have sx3 : Step (fun s => SG i k s ∨ s = rT i) w T w3 T3 := s3.mono (fun _ h => .inr h)
    have hB3 := hB.step s3 (by simp)
    have hS3 := hS.step s3 (by simp)
    have hG3 := hG.step s3 (fun r hr h => by simp at h; omega)
    clear hB hS hG s3 ht
    have hset : setB p.done = true := hok.set
    have hd4 : p.dead.length ≤ 4000 := by
      have h1 := nodup_ints 400 (p.core.dead.map (·.off)) hok.once (fun x hx => by
        obtain ⟨y, hy, rfl⟩ := List.mem_map.1 hx
        have h2 := hok.done y.off (hok.dead y hy).1
        have h3 := hok.start
        omega)
      have : p.core.dead.length = p.dead.length := rfl
      simp at h1
      omega
    have hid := fun w4 h => isDone_any i k gb p off w4 T3 h hset
    have hde := fun w4 h => isDead_any i k gb p off w4 T3 h (by omega)
    have o0 := hO.cell (j := 0) (v := .int .i64 off) rfl
    have o2 := hO.cell (j := 2) (v := .string sx) rfl
    have lo := hO.lt
    go_wp2_with fail
    refine (hid w3 hG3).mono ?_
    rintro e4 w4 ⟨rfl, hb4⟩
    have g4 := step_below (fun _ => False) T3 hb4
    have hO4 := hO.step g4 (fun h => h)
    have o04 := hO4.cell (j := 0) (v := .int .i64 off) rfl
    have o24 := hO4.cell (j := 2) (v := .string sx) rfl
    have lo4 := hO4.lt
    have sx4 := sx3.trans (g4.mono (fun _ h => h.elim))
    clear o0 o2 lo
    cases hdn : hasB p.done off
    · have er : Hid (R = none) := hide (by
        rw [← hRR.out]
        have : deadOk co p.core off sx = false := by simp [deadOk, PG.core, hdn]
        rw [this]
        rfl)
      go_wp2
      go_ret
      exact ⟨T3, sx4, by rw [er.out]; rfl⟩
    have hrng := hok.done off hdn
    have hG4 := hG3.step g4 (fun _ _ h => h)
    go_wp2_with fail
    refine (hde w4 hG4).mono ?_
    rintro e5 w5 ⟨rfl, hb5⟩
    have g5 := step_below (fun _ => False) T3 hb5
    have hO5 := hO4.step g5 (fun h => h)
    have o05 := hO5.cell (j := 0) (v := .int .i64 off) rfl
    have o15 := hO5.cell (j := 1) (v := .int .i64 c.d) rfl
    have o25 := hO5.cell (j := 2) (v := .string sx) rfl
    have lo5 := hO5.lt
    have sx5 := sx4.trans (g5.mono (fun _ h => h.elim))
    have hG5 := hG4.step g5 (fun _ _ h => h)
    have hB5 := (hB3.step g4 (fun h => h)).step g5 (fun h => h)
    have hS5 := (hS3.step g4 (fun h => h)).step g5 (fun h => h)
    have hR5 := (hR3.step g4 (fun h => h)).step g5 (fun h => h)
    clear o04 o24 lo4 hid hde hB3 hS3 hR3 hG3 hG4 hO hO4 g4 g5 sx3 sx4 hb4 hb5
    cases hdd : p.dead.any (fun x => decide (x.off = off))
    case true =>
      have er : Hid (R = none) := hide (by
        rw [← hRR.out]
        have : deadOk co p.core off sx = false := by simp only [deadOk, PG.core, hdn, hdd]; rfl
        rw [this]
        rfl)
      go_wp2
      go_ret
      exact ⟨T3, sx5, by rw [er.out]; rfl⟩
    by_cases h64 : sx.size ≤ 64
    · have c5 := hB5.cell (j := 5) (v := .int .i64 co.floor) rfl
      have c6 := hB5.cell (j := 6) (v := vB) rfl
      have lb5 := hB5.lt
      have h64' : ¬ (64 : Int) < sx.size := by omega
      have hrng2 : off < co.floor + co.bodies.length := hrng.2
      have hst2 : co.floor + co.bodies.length ≤ 400 := hst
      by_cases hge : co.floor ≤ off
      · obtain ⟨jn, hjn⟩ : ∃ jn : Nat, (off : Int) - co.floor = jn := ⟨((off : Int) - co.floor).toNat, by omega⟩
        obtain ⟨y, hy⟩ : ∃ y, co.bodies[jn]? = some y := ⟨_, List.getElem?_eq_getElem (by omega)⟩
        have hbody : co.body off = y := by
          unfold Core.body
          rw [hjn, List.getD_eq_getElem?_getD, Int.toNat_natCast, hy]
          rfl
        obtain ⟨bg, bo, bcap, rfl, hcell, lbg⟩ := hS5.cell (j := jn) (u := .string y) (by rw [List.getElem?_map, hy]; rfl)
        rw [List.length_map] at c6
        have hjl : jn < co.bodies.length := (List.getElem?_eq_some_iff.1 hy).1
        have hd1 : decide (co.floor ≤ (off : Int)) = true := decide_eq_true hge
        have hwr : IntKind.i64.wrap ((off : Int) - co.floor) = jn := by rw [IntWalk.i64_left, IntWalk.wrap64_in _ ⟨by omega, by omega⟩]; exact hjn
        by_cases hxy : sx = y
        · have er : Hid (R = some ({ p.core with dead := p.core.dead ++ [⟨off, c.d, sx⟩] }, r2)) := hide (by
            rw [← hRR.out]
            have : deadOk co p.core off sx = true := by simp only [deadOk, PG.core, hdn, hdd, hbody, hxy]; simp [← hxy, h64]
            rw [this]
            rfl)
          subst hxy
          go_wp2_with fail
          refine wp_region_over (by kernel_rfl) (by kernel_rfl) ?_
          repeat (go_big_quiet_step (fail))
          refine wpQuiet_nil ?_
          rintro _ ⟨x6, rfl⟩
          have g6 := step_below (fun _ => False) T3 (over_below w5 x6)
          have sx6 := sx5.trans (g6.mono (fun _ h => (h.elim : SG i k _ ∨ _)))
          have hO6 := hO5.step g6 (fun h => h)
          have hG6 := hG5.step g6 (fun _ _ h => h)
          have hR6 := hR5.step g6 (fun h => h)
          clear c5 c6 lb5 o05 o15 o25 lo5 hO5 hG5 hR5 hB5 hS5 sx5
          generalize over w5 x6 = w6 at *
          obtain ⟨vD, vE, tb, wb, hBg, hD, hE, hT, hW⟩ := hG6
          obtain ⟨eo, ecap, rfl⟩ := row_form hE
          obtain ⟨g7, cap7, w7, T7, hrun7, x7, y7, s7, k7⟩ := dead_append i k gb p off c.d sx w6 T3 eo ecap vD tb wb hBg hD hE hT hW hd4
          have d2 := hBg.cell (j := 2) (v := .slice eo p.dead.length ecap) rfl
          have lg := hBg.lt
          have o0 := hO6.cell (j := 0) (v := .int .i64 off) rfl
          have o1 := hO6.cell (j := 1) (v := .int .i64 c.d) rfl
          have o2 := hO6.cell (j := 2) (v := .string sx) rfl
          have lo := hO6.lt
          have hR7 := hR6.step s7 (by rintro ⟨r, hr, h⟩; simp at h; omega)
          have sx7 := sx6.trans (s7.mono (fun _ h => .inl h))
          clear hBg hD hE hT hW hR6 sx6 s7 hO6
          go_wp2_with fail
          go_region_law (first
            | (refine step_append_known rfl _ _ 77 rfl _ _ _ rfl rfl hrun7 ?_)
            | go_simp)
          all_goals
            go_wp2
            go_ret
            exact ⟨T7, sx7, by rw [er.out]; exact ⟨rfl, ⟨_, k7, rfl⟩, hR7⟩⟩
        · have er : Hid (R = none) := hide (by
            rw [← hRR.out]
            have : deadOk co p.core off sx = false := by simp [deadOk, hbody, hxy, hge]
            rw [this]
            rfl)
          have hne1 : (sx.toList == y.toList) = false := by rw [strEq]; simp [hxy]
          go_wp2_with fail
          refine wp_region_over (by kernel_rfl) (by kernel_rfl) ?_
          repeat (go_big_quiet_step (fail))
          refine wpQuiet_nil ?_
          rintro _ ⟨x6, rfl⟩
          have g6 := step_below (fun s => SG i k s ∨ s = rT i) T3 (over_below w5 x6)
          go_wp2
          go_ret
          exact ⟨T3, sx5.trans g6, by rw [er.out]; rfl⟩
      · have hd1 : decide (co.floor ≤ (off : Int)) = false := decide_eq_false hge
        have er : Hid (R = some ({ p.core with dead := p.core.dead ++ [⟨off, c.d, sx⟩] }, r2)) := hide (by
          rw [← hRR.out]
          have : deadOk co p.core off sx = true := by simp only [deadOk, PG.core, hdn, hdd, hd1]; simp [h64]
          rw [this]
          rfl)
        go_wp2_with fail
        refine wp_region_over (by kernel_rfl) (by kernel_rfl) ?_
        repeat (go_big_quiet_step (fail))
        refine wpQuiet_nil ?_
        rintro _ ⟨x6, rfl⟩
        have g6 := step_below (fun _ => False) T3 (over_below w5 x6)
        have sx6 := sx5.trans (g6.mono (fun _ h => (h.elim : SG i k _ ∨ _)))
        have hO6 := hO5.step g6 (fun h => h)
        have hG6 := hG5.step g6 (fun _ _ h => h)
        have hR6 := hR5.step g6 (fun h => h)
        clear c5 c6 lb5 o05 o15 o25 lo5 hO5 hG5 hR5 hB5 hS5 sx5
        generalize over w5 x6 = w6 at *
        obtain ⟨vD, vE, tb, wb, hBg, hD, hE, hT, hW⟩ := hG6
        obtain ⟨eo, ecap, rfl⟩ := row_form hE
        obtain ⟨g7, cap7, w7, T7, hrun7, x7, y7, s7, k7⟩ := dead_append i k gb p off c.d sx w6 T3 eo ecap vD tb wb hBg hD hE hT hW hd4
        have d2 := hBg.cell (j := 2) (v := .slice eo p.dead.length ecap) rfl
        have lg := hBg.lt
        have o0 := hO6.cell (j := 0) (v := .int .i64 off) rfl
        have o1 := hO6.cell (j := 1) (v := .int .i64 c.d) rfl
        have o2 := hO6.cell (j := 2) (v := .string sx) rfl
        have lo := hO6.lt
        have hR7 := hR6.step s7 (by rintro ⟨r, hr, h⟩; simp at h; omega)
        have sx7 := sx6.trans (s7.mono (fun _ h => .inl h))
        clear hBg hD hE hT hW hR6 sx6 s7 hO6
        go_wp2_with fail
        go_region_law (first
          | (refine step_append_known rfl _ _ 77 rfl _ _ _ rfl rfl hrun7 ?_)
          | go_simp)
        all_goals
          go_wp2
          go_ret
          exact ⟨T7, sx7, by rw [er.out]; exact ⟨rfl, ⟨_, k7, rfl⟩, hR7⟩⟩
    · have er : Hid (R = none) := hide (by
        rw [← hRR.out]
        have : deadOk co p.core off sx = false := by simp [deadOk, h64]
        rw [this]
        rfl)
      have h64' : (64 : Int) < sx.size := by omega
      go_wp2
      go_ret
      exact ⟨T3, sx5, by rw [er.out]; rfl⟩

end Go.Proofs.YtockkceclkcgbaaGreatDoor

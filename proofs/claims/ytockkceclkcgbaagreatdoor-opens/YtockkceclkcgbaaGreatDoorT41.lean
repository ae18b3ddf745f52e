/- The contract of step at a kind that does nothing, over any queue that keeps the contracts. -/
import Derived.Test.YtockkceclkcgbaaGreatDoorT38
import Derived.Test.YtockkceclkcgbaaGreatDoorT02
import Derived.BigRegion
import Derived.Test.YtockkceclkcgbaaGreatDoorT28
import Derived.Test.YtockkceclkcgbaaGreatDoorT40
namespace Go.Proofs.YtockkceclkcgbaaGreatDoor
open Go.RowKit

attribute [local go_sem] over_cell

set_option maxRecDepth 100000 in
set_option maxHeartbeats 2000000 in
theorem stepT_other {X : World → (Nat → Tag) → Nat → Nat → MQ → Prop} {B Bm : Int} (hX : XC X Bm) (wb : Nat) (c d : Conf) (M : Int) (ps : List Nat) (q q' : Nat) (kind qu : Int) (nm bd : ByteArray) (n tr ms : Int) (yes : Bool) (w : World) (T : Nat → Tag) (hw : WT X B w T wb c d M ps q q') (hk : kind < 1 ∨ M < kind) :
    Calls Tryz.prog 16 #[.pointer (some ⟨wb, 0, none⟩), .agg (opCells kind qu nm bd n tr ms yes)] w (CallPostG 0 X B w T wb c d M ps q q') := by
  have hw0 := hw
  obtain ⟨⟨vP, vr, vd, hB, hR, _, _⟩, hprs⟩ := hw
  have l0 := hB.lt
  have k11 := hB.cell (j := 11) rfl
  simp only [List.getElem_toArray, List.getElem_cons_succ, List.getElem_cons_zero] at k11
  clear hB hR hprs
  have l1 : wb < (w.alloc (.cells (opCells kind qu nm bd n tr ms yes) 46)).heap.size := by simp; omega
  have l2 : w.heap.size < (w.alloc (.cells (opCells kind qu nm bd n tr ms yes) 46)).heap.size := by simp
  have hfin : ∀ {w' : World}, Below (w.alloc (.cells (opCells kind qu nm bd n tr ms yes) 46)).heap.size (w.alloc (.cells (opCells kind qu nm bd n tr ms yes) 46)) w' → CallPostG 0 X B w T wb c d M ps q q' (.returned (.bool true)) w' := fun {w'} h => by
    have hs : Step (fun _ => False) w T w' T := step_below _ T (((Below.refl _ _).alloc (Nat.le_refl _) _).trans (h.mono (by simp)))
    exact ⟨rfl, T, q, q', hs.mono (fun _ h => h.elim), hw0.step hX hs (fun _ h => h), by omega, by omega⟩
  by_cases h1 : kind < 1
  · go_enter Tryz.func16, Tryz.ntmps16
    go_wp2_with fail
    refine wp_region_over (by kernel_rfl) (by kernel_rfl) ?_
    repeat (go_big_quiet_step (fail))
    refine wpQuiet_nil ?_
    rintro _ ⟨x, rfl⟩
    have hb := over_below (w.alloc (.cells (opCells kind qu nm bd n tr ms yes) 46)) x
    generalize over (w.alloc (.cells (opCells kind qu nm bd n tr ms yes) 46)) x = w2 at *
    go_wp2
    go_ret
    exact hfin hb
  · have h2 : M < kind := by omega
    have h1' : decide (kind < 1) = false := by simp; omega
    go_enter Tryz.func16, Tryz.ntmps16
    go_wp2_with fail
    refine wp_region_over (by kernel_rfl) (by kernel_rfl) ?_
    repeat (go_big_quiet_step (fail))
    refine wpQuiet_nil ?_
    rintro _ ⟨x, rfl⟩
    have hb := over_below (w.alloc (.cells (opCells kind qu nm bd n tr ms yes) 46)) x
    generalize over (w.alloc (.cells (opCells kind qu nm bd n tr ms yes) 46)) x = w2 at *
    go_wp2
    go_ret
    exact hfin hb

end Go.Proofs.YtockkceclkcgbaaGreatDoor

/- The contract of the document's Copy of a queue that has nothing yet: it only makes new memory. -/
namespace Go.Proofs.YtockkceclkcgbaaGreatDoor
open Go.RowKit

theorem append_nils (w : World) : (Builtin.append_ #[54, 54] 54 #[.slice none 0 0, .slice none 0 0]).run Tryz.prog w = .ok (.slice none 0 0) w := by
  obtain ⟨i0, hi, hz0, hz1, hz2⟩ := info_parts (show (Tryz.prog.info? 9).map (fun i => (i.zero, i.size, i.bytes)) = some (some (.string ⟨#[]⟩), 1, 16) by kernel_rfl)
  simp [Builtin.append_, run_underlying Tryz.underlying54, sizeOf, typeInfo, hi, Builtin.lenOf, Builtin.firstCells]

set_option maxRecDepth 100000 in
set_option maxHeartbeats 4000000 in
theorem ycopy_fresh (b : Nat) (c : Conf) (w : World) (hB : w.heap[b]? = some (.cells #[.int .i64 c.l, .int .i64 c.d, .int .i64 c.s, .int .i64 c.k, .slice none 0 0, .int .i64 0, .slice none 0 0, .int .i64 0, .int .i64 0] 95 (0, 0))) :
    Calls Tryz.prog 40 #[.pointer (some ⟨b, 0, none⟩)] w fun e w' => ∃ p, e = .returned (.pointer (some p)) ∧ Below w.heap.size w w' := by
  have hB0 : Blk w (fun _ => .free) .free b _ 95 := ⟨rfl, hB⟩
  have hlt := hB0.lt
  have c0 := hB0.cell (j := 0) rfl
  have c1 := hB0.cell (j := 1) rfl
  have c2 := hB0.cell (j := 2) rfl
  have c3 := hB0.cell (j := 3) rfl
  have c4 := hB0.cell (j := 4) rfl
  have c5 := hB0.cell (j := 5) rfl
  have c6 := hB0.cell (j := 6) rfl
  have c7 := hB0.cell (j := 7) rfl
  have c8 := hB0.cell (j := 8) rfl
  simp only [List.getElem_toArray, List.getElem_cons_succ, List.getElem_cons_zero] at c0 c1 c2 c3 c4 c5 c6 c7 c8
  clear hB hB0
  go_enter Tryz.func40, Tryz.ntmps40
  go_wp2_with fail
  go_region
  go_wp2_with fail
  go_region_law (refine step_append_known rfl _ _ 54 rfl _ _ _ rfl rfl (append_nils _) ?_)
  all_goals
    go_wp2
    refine wp_loop_rounds 1 ?_
    rw [rounds_succ]
    go_wp2
    go_ret
    exact ⟨⟨w.heap.size, 0, none⟩, rfl, (((Below.refl _ _).alloc (Nat.le_refl _) _).drew).drew⟩

end Go.Proofs.YtockkceclkcgbaaGreatDoor

/- The contract of opened over the program's queue: a new pair, or none where the configuration is none. -/
namespace Go.Proofs.YtockkceclkcgbaaGreatDoor
open Go.RowKit

theorem WT.keep {X : World → (Nat → Tag) → Nat → Nat → MQ → Prop} {B Bm : Int} (hX : XC X Bm) {S : Tag → Prop} {w w' : World} {T T' : Nat → Tag} {wb : Nat} {c d : Conf} {most : Int} {ps : List Nat} {q q' : Nat} (h : WT X B w T wb c d most ps q q') (hs : Step S w T w' T') (h0 : ¬ S .world) (h0' : ¬ S .row)
    (hb : ∀ t : Tag, 8 ≤ t.c → ¬ S t) (h1 : ∀ i, i < ps.length → ¬ S (.pair i)) (h2 : ∀ i t, i < ps.length → XT i t → ¬ S t) (h3 : ∀ i r k, i < ps.length → ¬ S (.y i r k)) : WT X B w' T' wb c d most ps q q' := by
  obtain ⟨⟨vP, vr, vd, e1, e2, e3, e4⟩, e5⟩ := h
  refine ⟨⟨vP, vr, vd, e1.step hs h0, e2.step hs h0', e3.step hs (hb _ (by simp)) (fun _ _ => hb _ (by simp)), e4.step hs (hb _ (by simp)) (fun _ _ => hb _ (by simp))⟩, fun i p hi => ?_⟩
  have hlt := (List.getElem?_eq_some_iff.1 hi).1
  exact (e5 i p hi).step hX hs (h1 i hlt) (fun t ht => h2 i t hlt ht) (fun r k => h3 i r k hlt)

theorem PairM.step {X : World → (Nat → Tag) → Nat → Nat → MQ → Prop} {B B' : Int} (hX : XC X B') {m : MQ} {S : Tag → Prop} {w w' : World} {T T' : Nat → Tag} {i p : Nat} (h : PairM X B m w T i p) (hs : Step S w T w' T') (h1 : ¬ S (.pair i)) (h2 : ∀ t, XT i t → ¬ S t) (h3 : ∀ r k, ¬ S (.y i r k)) : PairM X B m w' T' i p := by
  obtain ⟨bx, yb, vs, lg, hB, hx, hy, hf⟩ := h
  exact ⟨bx, yb, vs, lg, hB.step hs h1, hX.step hx hs h2, hy.step hs h3, hf⟩

def selC (n : Int) (c d : Conf) : Conf := bif decide (pickQ n 2 = 0) then c else d

theorem info57 : (Tryz.prog.info? 42).map (fun i => (i.zero, i.size, i.bytes)) = some (some (.pointer none), 1, 8) := by kernel_rfl
theorem info84 : (Tryz.prog.info? 98).map (fun i => (i.zero, i.size, i.bytes)) = some (some (.agg #[.int .i64 0, .pointer none]), 2, 16) := by kernel_rfl

theorem cells_new2 (w : World) (xs : List Value) (t : TypeId) : ∀ j u, xs[j]? = some u → (w.alloc (.cells xs.toArray t)).cell? ((⟨w.heap.size, 0, none⟩ : Addr).add j) = some u := by
  intro j u hj
  have h := heap_alloc_new w (.cells xs.toArray t)
  rw [Addr.add_lit, Nat.zero_add]
  unfold World.cell?
  simp only [h]
  simpa using hj

set_option maxHeartbeats 400000 in
theorem pickq_same (c n : Int) (w : World) (h0 : -9223372036854775808 ≤ c) (h1 : c ≤ 9223372036854775807) (hn : 1 ≤ n) (hn1 : n ≤ 9223372036854775807) :
    Calls Tryz.prog 38 #[.int .i64 c, .int .i64 n] w fun e w' => e = .returned (.int .i64 (pickQ c n)) ∧ w' = w := by
  by_cases hc : c < 0
  · go_enter Tryz.func38, Tryz.ntmps38
    go_wp2
    go_ret
    exact ⟨by simp [pickQ, hc], rfl⟩
  · go_enter Tryz.func38, Tryz.ntmps38
    go_wp2
    go_ret
    refine ⟨?_, rfl⟩
    rw [pickQ, if_neg (by omega), Int.tmod_eq_emod_of_nonneg hc]; rfl

/-- Copy of a queue that has nothing yet, and the stand that is appended behind it -/
theorem ycopy_stand (yb pb i bx : Nat) (C : Conf) (w : World) (T : Nat → Tag) (hY : Blk w T (.y i 0 0) yb #[.int .i64 C.l, .int .i64 C.d, .int .i64 C.s, .int .i64 C.k, .slice none 0 0, .int .i64 0, .slice none 0 0, .int .i64 0, .int .i64 0] 95)
    (hP : Blk w T (.pair i) pb #[.pointer (some ⟨bx, 0, none⟩), .pointer (some ⟨yb, 0, none⟩), .int .i64 C.l, .int .i64 C.d, .int .i64 C.s, .int .i64 C.k, .slice none 0 0, .string ⟨#[]⟩] 41) :
    Calls Tryz.prog 40 #[.pointer (some ⟨yb, 0, none⟩)] w.drew fun e w5 => ∃ p5 g6 cap6 w6 T6, e = .returned (.pointer (some p5)) ∧
      (Builtin.append_ #[39, 39] 39 #[.slice none 0 0, .slice (some ⟨w5.heap.size, 0, none⟩) 1 1]).run Tryz.prog (w5.alloc (.cells #[.int .i64 0, .pointer (some p5)] 98)) = .ok (.slice (some ⟨g6, 0, none⟩) 1 cap6) w6 ∧
      pb < w5.heap.size ∧ w5.cell? ⟨pb, 6, none⟩ = some (.slice none 0 0) ∧ w5.cell? ⟨pb, 7, none⟩ = some (.string ⟨#[]⟩) ∧ w6.cell? ⟨pb, 6, none⟩ = some (.slice none 0 0) ∧ w6.frozen? ⟨pb, 6, none⟩ = false ∧
      Step (fun t => t = .pair i ∨ t = .free) w T (w6.setCell ⟨pb, 6, none⟩ (.slice (some ⟨g6, 0, none⟩) 1 cap6)) T6 ∧
      Blk (w6.setCell ⟨pb, 6, none⟩ (.slice (some ⟨g6, 0, none⟩) 1 cap6)) T6 (.pair i) pb #[.pointer (some ⟨bx, 0, none⟩), .pointer (some ⟨yb, 0, none⟩), .int .i64 C.l, .int .i64 C.d, .int .i64 C.s, .int .i64 C.k, .slice (some ⟨g6, 0, none⟩) 1 cap6, .string ⟨#[]⟩] 41 := by
  refine (ycopy_fresh yb C w.drew hY.2).mono ?_
  rintro e w5 ⟨p5, rfl, hb5⟩
  obtain ⟨i0, hi, hz0, hz1, hz2⟩ := info_parts info84
  have hb : Below w.heap.size w w5 := (Below.refl w.heap.size w).drew.trans hb5
  have hs5 := step_below (fun _ => False) T hb
  have hP5 := hP.step hs5 (fun h => h)
  have hal := step_alloc w5 T (.cells #[.int .i64 0, .pointer (some p5)] 98) (fun _ => False)
  obtain ⟨g6, cap6, w6, T6, hrun6, hR6, hs6⟩ := run_append_row (P := Tryz.prog) (tg := .free) 39 39 98 i0 _ 2 16 Tryz.underlying39 hi hz0 hz1 hz2 rfl (by decide) _ _ _ (row_nil (w5.alloc (.cells #[.int .i64 0, .pointer (some p5)] 98)) T .free 98 2) ⟨w5.heap.size, 0, none⟩ 1 1 [.int .i64 0, .pointer (some p5)] rfl
    (cells_new2 w5 [.int .i64 0, .pointer (some p5)] 98) (by simp [Value.oneCell']) (by decide) (by unfold maxLen; omega) (by omega)
  have hP6 := (hP5.step hal (fun h => h)).step hs6 (by simp)
  refine ⟨p5, g6, cap6, w6, T6, rfl, hrun6, hP5.lt, hP5.cell (j := 6) rfl, hP5.cell (j := 7) rfl, hP6.cell (j := 6) rfl, hP6.frozen 6, ?_, hP6.set 6 _⟩
  exact ((hs5.mono (fun _ h => h.elim)).trans ((step_alloc _ _ _ _).trans (hs6.mono (fun t ht => .inr ht)))).trans (step_setCell _ _ _ _ _ (.inl hP6.1))

theorem pick_two (n : Int) : pickQ n 2 = 0 ∨ pickQ n 2 = 1 := by
  have := pickQ_range n 2 (by decide)
  omega

set_option maxRecDepth 100000 in
set_option maxHeartbeats 2000000 in
theorem opened_any {B Bm : Int} (hX : XC X Bm) (h0B : 0 ≤ B) (wb : Nat) (c d : Conf) (most : Int) (ps : List Nat) (q q' : Nat) (n : Int) (w : World) (T : Nat → Tag) (hw : WT X B w T wb c d most ps q q') (h0 : -9223372036854775808 ≤ n) (h1 : n ≤ 9223372036854775807) (hlen : ps.length + 1 ≤ 17592186044416) :
    Calls Tryz.prog 13 #[.pointer (some ⟨wb, 0, none⟩), .int .i64 n] w fun e w' => e = .returned (.bool true) ∧
      ∃ T' ps', Step (fun t => t ≠ .old) w T w' T' ∧ WT X B w' T' wb c d most ps' q q' ∧ ps.length ≤ ps'.length ∧ ps'.length ≤ ps.length + 1 ∧ (goodC (selC n c d) = true → ∃ p, ps' = ps ++ [p] ∧ PairM X B ⟨selC n c d, [], 0, [], 0, 0⟩ w' T' ps.length p) := by
  have hw0 := hw
  obtain ⟨⟨vP, vr, vd, hB, hR, hbr, hbd⟩, hprs⟩ := hw
  have l0 := hB.lt
  have k0 := hB.cell (j := 0) rfl
  have k1 := hB.cell (j := 1) rfl
  have k2 := hB.cell (j := 2) rfl
  have k3 := hB.cell (j := 3) rfl
  have k4 := hB.cell (j := 4) rfl
  have k5 := hB.cell (j := 5) rfl
  have k6 := hB.cell (j := 6) rfl
  have k7 := hB.cell (j := 7) rfl
  simp only [List.getElem_toArray, List.getElem_cons_succ, List.getElem_cons_zero] at k0 k1 k2 k3 k4 k5 k6 k7
  clear hB hR hprs hbr hbd
  go_enter Tryz.func13, Tryz.ntmps13
  go_wp2_with fail
  go_cut [5] from 11 to 17 (fun v w' => ∃ g, v = .pointer (some ⟨g, 0, none⟩) ∧ w.heap.size ≤ g ∧ w'.heap[g]? = some (.cells (selC n c d).cells 23 (0, 0)) ∧ Below w.heap.size w w')
  case first =>
    rcases pick_two n with hp | hp
    · go_region_law (go_simp; go_at_call 38; refine (pickq_same _ _ _ h0 h1 (by decide) (by decide)).mono ?_; rintro e w1 ⟨rfl, rfl⟩; rw [hp])
      all_goals
        go_wp2_with fail
        go_meet
        exact ⟨w.heap.size, rfl, Nat.le_refl _, (by have e : selC n c d = c := (by simp [selC, hp]); rw [e]; exact heap_alloc_new w _), ((Below.refl _ _).alloc (Nat.le_refl _) _).drew⟩
    · go_region_law (go_simp; go_at_call 38; refine (pickq_same _ _ _ h0 h1 (by decide) (by decide)).mono ?_; rintro e w1 ⟨rfl, rfl⟩; rw [hp])
      all_goals
        go_wp2_with fail
        go_meet
        exact ⟨w.heap.size, rfl, Nat.le_refl _, (by have e : selC n c d = d := (by simp [selC, hp]); rw [e]; exact heap_alloc_new w _), ((Below.refl _ _).alloc (Nat.le_refl _) _).drew⟩
  case rest =>
    obtain ⟨g, rfl, hg, hblk, hb1⟩ := hcut
    generalize wc = w1 at *
    obtain ⟨C, hC⟩ : ∃ C, Hid (C = selC n c d) := ⟨_, hide rfl⟩
    rw [← hC.out] at hblk
    have hK : Blk w1 (fun _ => .free) .free g C.cells 23 := ⟨rfl, hblk⟩
    have gl := hK.lt
    have s0 := hK.cell (j := 0) rfl
    have s1 := hK.cell (j := 1) rfl
    have s2 := hK.cell (j := 2) rfl
    have s3 := hK.cell (j := 3) rfl
    simp only [List.getElem_toArray, List.getElem_cons_succ, List.getElem_cons_zero] at s0 s1 s2 s3
    clear k0 k1 k2 k3 k4 k5 k6 k7 hblk
    obtain ⟨T0, hT0⟩ : ∃ T0, T0 = retag T g .free := ⟨_, rfl⟩
    have f1 : Step (fun _ => False) w T w1 T0 := ⟨hb1.os, hb1.tape, hb1.output, hb1.size, fun k hk => by rw [hT0, retag_other _ _ _ (by omega)], fun k hk _ => hb1.block k hk⟩
    have hK0 : Blk w1 T0 .free g C.cells 23 := ⟨by rw [hT0]; exact retag_same _ _ _, hK.2⟩
    go_wp2_with fail
    have hop := xopenL_any C ps.length w1 T0
    unfold Conf.cells at hop
    refine hop.mono ?_
    clear hop
    rintro e w2 (⟨hg0, rfl, hb2⟩ | ⟨hg1, bx, T2, rfl, hs2, hx⟩)
    · have hK2 := hK.step (step_below (fun _ => False) _ hb2) (fun h => h)
      have u0 := hK2.cell (j := 0) rfl
      have u1 := hK2.cell (j := 1) rfl
      have u2 := hK2.cell (j := 2) rfl
      have u3 := hK2.cell (j := 3) rfl
      simp only [List.getElem_toArray, List.getElem_cons_succ, List.getElem_cons_zero] at u0 u1 u2 u3
      go_wp2_with fail
      have hgo := good_any C w2
      unfold Conf.cells at hgo
      refine hgo.mono ?_
      clear hgo
      rintro e w3 ⟨rfl, hb3⟩
      rw [hg0]
      go_wp2
      go_ret
      have f3 := (f1.trans (step_below _ T0 hb2)).trans (step_below _ T0 hb3)
      exact ⟨by first | rfl | simp, T0, ps, f3.mono (fun _ h => h.elim), hw0.step hX f3 (fun _ h => h), Nat.le_refl _, Nat.le_succ _, fun h => by rw [← hC.out, hg0] at h; cases h⟩
    · have hK2 := hK0.step hs2 (by rintro ⟨h, _⟩; simp at h)
      have u0 := hK2.cell (j := 0) rfl
      have u1 := hK2.cell (j := 1) rfl
      have u2 := hK2.cell (j := 2) rfl
      have u3 := hK2.cell (j := 3) rfl
      simp only [List.getElem_toArray, List.getElem_cons_succ, List.getElem_cons_zero] at u0 u1 u2 u3
      go_wp2_with fail
      have hgo := good_any C w2
      unfold Conf.cells at hgo
      refine hgo.mono ?_
      clear hgo
      rintro e w3 ⟨rfl, hb3⟩
      rw [hg1]
      have hK3 := hK2.step (step_below (fun _ => False) _ hb3) (fun h => h)
      have gl3 := hK3.lt
      have v0 := hK3.cell (j := 0) rfl
      have v1 := hK3.cell (j := 1) rfl
      have v2 := hK3.cell (j := 2) rfl
      have v3 := hK3.cell (j := 3) rfl
      simp only [List.getElem_toArray, List.getElem_cons_succ, List.getElem_cons_zero] at v0 v1 v2 v3
      have hxm := hx.step (step_below (fun _ => False) T2 hb3) (fun _ _ h => h)
      replace hx : X w3 T2 ps.length bx ⟨C, [], 0, [], 0, 0⟩ := ⟨_, _, _, hxm, log_new hg1⟩
      have hlog : ∀ w' : World, Below w3.heap.size w3 w' → Calls Tryz.prog 26 #[.pointer (some ⟨bx, 0, none⟩)] w' fun e w'' => e = .returned (.string ⟨#[]⟩) ∧ w'' = w' := fun w' hb => xlog_any ps.length bx _ w' T2 (hxm.step (step_below (fun _ => False) T2 hb) (fun _ _ h => h))
      have f3 : Step (XT ps.length) w T w3 T2 := ((f1.mono (fun _ h => h.elim)).trans hs2).trans (step_below _ T2 hb3)
      clear s0 s1 s2 s3 u0 u1 u2 u3 hK hK2 hs2 hb3 hb1 f1 hxm hK0
      go_wp2_with fail
      go_cut [10] from 42 to 48 (fun v w' => v = .pointer (some ⟨w3.heap.size + 1, 0, none⟩) ∧ w' = ((w3.alloc (.cells #[.int .i64 C.l, .int .i64 C.d, .int .i64 C.s, .int .i64 C.k, .slice none 0 0, .int .i64 0, .slice none 0 0, .int .i64 0, .int .i64 0] 95)).alloc (.cells #[.pointer (some ⟨bx, 0, none⟩), .pointer (some ⟨w3.heap.size, 0, none⟩), .int .i64 C.l, .int .i64 C.d, .int .i64 C.s, .int .i64 C.k, .slice none 0 0, .string ⟨#[]⟩] 41)).drew)
      case first =>
        go_region_law (go_simp; go_at_call 26; refine (hlog _ (by first | exact (Below.refl _ _).drew | exact ((Below.refl _ _).alloc (Nat.le_refl _) _).drew | exact ((Below.refl _ _).drew).alloc (Nat.le_refl _) _)).mono ?_; rintro e w4 ⟨rfl, rfl⟩)
        all_goals
          go_wp2_with fail
          go_meet
          exact ⟨by simp, by simp⟩
      case rest =>
        obtain ⟨rfl, hwc⟩ := hcut
        obtain ⟨T4, f5, hYb, hPb, hx5⟩ : ∃ T4, Step (XT ps.length) w T wc T4 ∧ Blk wc T4 (.y ps.length 0 0) w3.heap.size #[.int .i64 C.l, .int .i64 C.d, .int .i64 C.s, .int .i64 C.k, .slice none 0 0, .int .i64 0, .slice none 0 0, .int .i64 0, .int .i64 0] 95 ∧
            Blk wc T4 (.pair ps.length) (w3.heap.size + 1) #[.pointer (some ⟨bx, 0, none⟩), .pointer (some ⟨w3.heap.size, 0, none⟩), .int .i64 C.l, .int .i64 C.d, .int .i64 C.s, .int .i64 C.k, .slice none 0 0, .string ⟨#[]⟩] 41 ∧ X wc T4 ps.length bx ⟨C, [], 0, [], 0, 0⟩ := by
          subst hwc
          have a1 := step_new w3 T2 (.cells #[.int .i64 C.l, .int .i64 C.d, .int .i64 C.s, .int .i64 C.k, .slice none 0 0, .int .i64 0, .slice none 0 0, .int .i64 0, .int .i64 0] 95) (.y ps.length 0 0) (fun _ => False)
          have b1 := blk_new w3 T2 #[.int .i64 C.l, .int .i64 C.d, .int .i64 C.s, .int .i64 C.k, .slice none 0 0, .int .i64 0, .slice none 0 0, .int .i64 0, .int .i64 0] 95 (.y ps.length 0 0)
          generalize hwa : w3.alloc (.cells #[.int .i64 C.l, .int .i64 C.d, .int .i64 C.s, .int .i64 C.k, .slice none 0 0, .int .i64 0, .slice none 0 0, .int .i64 0, .int .i64 0] 95) = wa at *
          have hsz : wa.heap.size = w3.heap.size + 1 := by rw [← hwa]; simp
          have a2 := step_new wa (retag T2 w3.heap.size (.y ps.length 0 0)) (.cells #[.pointer (some ⟨bx, 0, none⟩), .pointer (some ⟨w3.heap.size, 0, none⟩), .int .i64 C.l, .int .i64 C.d, .int .i64 C.s, .int .i64 C.k, .slice none 0 0, .string ⟨#[]⟩] 41) (.pair ps.length) (fun _ => False)
          have b2 := blk_new wa (retag T2 w3.heap.size (.y ps.length 0 0)) #[.pointer (some ⟨bx, 0, none⟩), .pointer (some ⟨w3.heap.size, 0, none⟩), .int .i64 C.l, .int .i64 C.d, .int .i64 C.s, .int .i64 C.k, .slice none 0 0, .string ⟨#[]⟩] 41 (.pair ps.length)
          have a3 := a2.trans (step_below _ _ (Below.refl _ _).drew)
          rw [hsz] at a3 b2
          exact ⟨_, (f3.trans (a1.mono (fun _ h => h.elim))).trans (a3.mono (fun _ h => h.elim)), b1.step a3 (fun h => h), b2, hX.step (hX.step hx a1 (fun _ _ h => h)) a3 (fun _ _ h => h)⟩
        clear hwc hx f3 v0 v1 v2 v3 hK3 gl gl3 hlog
        generalize w3.heap.size = yb at *
        generalize wc = wk at *
        have l6 := hPb.lt
        have n6 := hPb.cell (j := 6) rfl
        have n7 := hPb.cell (j := 7) rfl
        simp only [List.getElem_toArray, List.getElem_cons_succ, List.getElem_cons_zero] at n6 n7
        go_wp2_with fail
        go_cut [64] from 49 to 65 (fun _ w' => ∃ T' vs, Step (fun t => t = .pair ps.length ∨ t = .free) wk T4 w' T' ∧ Blk w' T' (.pair ps.length) (yb + 1) #[.pointer (some ⟨bx, 0, none⟩), .pointer (some ⟨yb, 0, none⟩), .int .i64 C.l, .int .i64 C.d, .int .i64 C.s, .int .i64 C.k, vs, .string ⟨#[]⟩] 41)
        case first =>
          go_region_law (first
            | (refine step_append_known rfl _ _ 39 rfl _ _ _ rfl rfl hrun6 ?_)
            | (go_simp; go_at_call 40; refine (ycopy_stand yb (yb + 1) ps.length bx C _ T4 hYb hPb).mono ?_; rintro e w5 ⟨p5, g6, cap6, w6, T6, rfl, hrun6, l5, o6, o7, x6, y6, z6, k6⟩))
          all_goals
            go_wp2_with fail
            go_meet
            exact ⟨T6, _, z6, k6⟩
        case rest =>
          obtain ⟨T6, vs, z6, k6⟩ := hcut
          generalize wc = wd at *
          have hx6 := hX.step hx5 z6 (by rintro t h1 (rfl | rfl) <;> exact absurd h1.1 (by simp))
          have hY6 := hYb.step z6 (by simp)
          have hpair : PairM X B ⟨C, [], 0, [], 0, 0⟩ wd T6 ps.length (yb + 1) :=
            ⟨bx, yb, vs, ⟨#[]⟩, k6, hx6, ⟨by simp [MQ.rq], by simp [MQ.rq], by simp [MQ.rq], .slice none 0 0, .slice none 0 0, fun _ => .slice none 0 0, fun _ => .slice none 0 0, hY6, row_nil _ _ _ _ _, row_nil _ _ _ _ _, by simp [MQ.rq]⟩, (fit_new C hg1).mono h0B⟩
          have f6 : Step (fun t => XT ps.length t ∨ t = .pair ps.length ∨ t = .free) w T wd T6 := (f5.mono (fun _ h => .inl h)).trans (z6.mono (fun _ h => .inr h))
          obtain ⟨⟨vP6, vr6, vd6, hW6, hR6, hr6, hd6⟩, hprs6⟩ : WT X B wd T6 wb c d most ps q q' := hw0.keep hX f6 (by simp [XT]) (by simp [XT]) (by rintro t ht (⟨h, _⟩ | rfl | rfl) <;> first | omega | simp at ht) (fun i hi => by simp [XT]; omega) (by rintro i t hi h1 (⟨_, h⟩ | rfl | rfl) <;> first | (have := h1.2; omega) | exact absurd h1.1 (by simp)) (by simp [XT])
          obtain ⟨po, pc, rfl⟩ := row_form hR6
          have lw := hW6.lt
          have c8 := hW6.cell (j := 8) rfl
          simp only [List.getElem_toArray, List.getElem_cons_succ, List.getElem_cons_zero] at c8
          obtain ⟨i0, hi, hz0, hz1, hz2⟩ := info_parts info57
          have hal := step_alloc wd T6 (.cells #[.pointer (some ⟨yb + 1, 0, none⟩)] 42) (fun _ => False)
          have hR6a := hR6.step hal (fun h => h)
          have hW6a := hW6.step hal (fun h => h)
          clear hx5 hYb hPb f5 n6 n7 l6 hx6 hY6 k6 z6 hw0
          go_wp2_with (first
            | (at_builtin; refine wpList_append_row rfl _ _ 27 rfl 42 i0 (.pointer none) 1 8 Tryz.underlying27 hi hz0 hz1 hz2 rfl (by decide) _ _ _ rfl hR6a ⟨wd.heap.size, 0, none⟩ 1 1 [.pointer (some ⟨yb + 1, 0, none⟩)] rfl rfl (cell_one_new _ _ _) (by simp [Value.oneCell']) (by decide) (by unfold maxLen; omega) (by omega) ?_; intro g7 cap7 w7 T7 hR7 hs7; have hW7 := hW6a.step hs7 (by simp); have d8 := hW7.cell (j := 8) rfl; have e8 := hW7.frozen 8)
            | go_in)
          go_ret
          have hs8 : Step (fun t => t = .world) w7 T7 (w7.setCell ⟨wb, 8, none⟩ (.slice (some ⟨g7, 0, none⟩) (ps.length + 1) cap7)) T7 := step_setCell _ _ _ _ _ hW7.1
          have hs9 : Step (fun t => t = .world ∨ t = .row) wd T6 (w7.setCell ⟨wb, 8, none⟩ (.slice (some ⟨g7, 0, none⟩) (ps.length + 1) cap7)) T7 := (hal.mono (fun _ h => h.elim)).trans ((hs7.mono (fun _ h => .inr h)).trans (hs8.mono (fun _ h => .inl h)))
          have nb : ∀ t : Tag, 8 ≤ t.c → ¬ (t = .world ∨ t = .row) := by rintro t ht (rfl | rfl) <;> simp at ht
          have nx : ∀ i t, XT i t → ¬ (t = .world ∨ t = .row) := by rintro i t h1 (rfl | rfl) <;> exact absurd h1.1 (by simp)
          refine ⟨by first | rfl | simp, T7, ps ++ [yb + 1], (f6.mono (fun t ht e => by rcases ht with ⟨h, _⟩ | h | h <;> rw [e] at h <;> first | cases h | simp at h)).trans (hs9.mono (fun t ht e => by rcases ht with h | h <;> rw [h] at e <;> cases e)), ⟨⟨_, vr6, vd6, hW7.set 8 _, by simpa [ptrV] using hR7.step hs8 (by simp), hr6.step hs9 (nb _ (by simp)) (fun _ _ => nb _ (by simp)), hd6.step hs9 (nb _ (by simp)) (fun _ _ => nb _ (by simp))⟩, fun i p hp => ?_⟩, by simp, by simp, fun _ => ⟨_, rfl, by rw [← hC.out]; exact hpair.step hX hs9 (by simp) (nx _) (by simp)⟩⟩
          rcases Nat.lt_or_ge i ps.length with h | h
          · rw [List.getElem?_append_left h] at hp
            exact (hprs6 i p hp).step hX hs9 (by simp) (nx i) (by simp)
          · rw [List.getElem?_append_right h] at hp
            have hk0 : i = ps.length := by
              rcases Nat.lt_or_ge (i - ps.length) 1 with h2 | h2
              · omega
              · rw [List.getElem?_eq_none (by simpa using h2)] at hp; cases hp
            subst hk0
            simp at hp
            subst hp
            exact hpair.pair.step hX hs9 (by simp) (nx _) (by simp)

end Go.Proofs.YtockkceclkcgbaaGreatDoor

/- The contract of step over the program's queue. -/
namespace Go.Proofs.YtockkceclkcgbaaGreatDoor
open Go.RowKit

attribute [local go_sem] over_cell

/-- what step leaves -/
def StepPost (B : Int) (w : World) (T : Nat → Tag) (wb : Nat) (c d : Conf) (M : Int) (ps : List Nat) (q q' : Nat) (e : Ending) (w' : World) : Prop :=
  e = .returned (.bool true) ∧ ∃ T' ps' q1 q1', Step (fun t => t ≠ .old) w T w' T' ∧ WT X (B + 60000) w' T' wb c d M ps' q1 q1' ∧ ps.length ≤ ps'.length ∧ ps'.length ≤ ps.length + 1 ∧ q1 ≤ q + 2 ∧ q1' ≤ q' + 2

set_option maxRecDepth 100000 in
set_option maxHeartbeats 2000000 in
theorem stepT_open {B Bm : Int} (hX : XC X Bm) (h0B : 0 ≤ B) (wb : Nat) (c d : Conf) (M : Int) (hM : 1 ≤ M ∧ M ≤ 12) (ps : List Nat) (q q' : Nat) (qu : Int) (nm bd : ByteArray) (n tr ms : Int) (yes : Bool) (w : World) (T : Nat → Tag) (hw : WT X B w T wb c d M ps q q') (hn : i64 n) (hlen : ps.length + 1 ≤ 17592186044416) :
    Calls Tryz.prog 16 #[.pointer (some ⟨wb, 0, none⟩), .agg (opCells 1 qu nm bd n tr ms yes)] w fun e w' => e = .returned (.bool true) ∧
      ∃ T' ps', Step (fun t => t ≠ .old) w T w' T' ∧ WT X B w' T' wb c d M ps' q q' ∧ ps.length ≤ ps'.length ∧ ps'.length ≤ ps.length + 1 ∧ (goodC (selC n c d) = true → ps'.length = ps.length + 1) := by
  have hM1 : ¬ M < 1 := by omega
  clear hM
  have hw0 := hw
  obtain ⟨⟨vP, vr, vd, hB, hR, hbr, hbd⟩, hprs⟩ := hw
  have l0 := hB.lt
  have k11 := hB.cell (j := 11) rfl
  simp only [List.getElem_toArray, List.getElem_cons_succ, List.getElem_cons_zero] at k11
  clear hB hR hprs hbr hbd
  have l1 : wb < (w.alloc (.cells (opCells 1 qu nm bd n tr ms yes) 46)).heap.size := by simp; omega
  have l2 : w.heap.size < (w.alloc (.cells (opCells 1 qu nm bd n tr ms yes) 46)).heap.size := by simp
  go_enter Tryz.func16, Tryz.ntmps16
  go_wp2_with fail
  refine wp_region_over (by kernel_rfl) (by kernel_rfl) ?_
  repeat (go_big_quiet_step (fail))
  refine wpQuiet_nil ?_
  rintro _ ⟨x, rfl⟩
  have hb := over_below (w.alloc (.cells (opCells 1 qu nm bd n tr ms yes) 46)) x
  have o0 := hb.cell (p := ⟨w.heap.size, 0, none⟩) l2
  have o4 := hb.cell (p := ⟨w.heap.size, 4, none⟩) l2
  generalize over (w.alloc (.cells (opCells 1 qu nm bd n tr ms yes) 46)) x = w2 at *
  have hs : Step (fun _ => False) w T w2 T := step_below _ T (((Below.refl _ _).alloc (Nat.le_refl _) _).trans (hb.mono (by simp)))
  have hw2 := hw0.step hX hs (fun _ h => h)
  go_wp2_with fail
  refine (opened_any hX h0B wb c d M ps q q' n _ T hw2 hn.1 hn.2 hlen).mono ?_
  rintro e w3 ⟨rfl, T3, ps', hs3, hw3, e1, e2, e3⟩
  go_wp2
  go_ret
  exact ⟨rfl, T3, ps', (hs.mono (fun _ h => h.elim)).trans hs3, hw3, e1, e2, fun hg => by obtain ⟨p, rfl, _⟩ := e3 hg; simp⟩

theorem step_any {B : Int} (h0B : 0 ≤ B) (hlm : B ≤ 3999999999999940000) (wb : Nat) (c d : Conf) (M : Int) (hM : 1 ≤ M ∧ M ≤ 12) (ps : List Nat) (q q' : Nat) (kind qu : Int) (nm bd : ByteArray) (n tr ms : Int) (yes : Bool) (w : World) (T : Nat → Tag) (hw : WT X B w T wb c d M ps q q') (hn : i64 n) (hqu : i64 qu) (hpos : kind = 1 ∨ 0 < ps.length) (hlen : ps.length + 1 ≤ 17592186044416) (hq : q ≤ 900000000) (hq' : q' ≤ 900000000) :
    Calls Tryz.prog 16 #[.pointer (some ⟨wb, 0, none⟩), .agg (opCells kind qu nm bd n tr ms yes)] w (StepPost B w T wb c d M ps q q') := by
  have hX := xc B hlm
  by_cases h1 : kind = 1
  · subst h1
    refine (stepT_open hX h0B wb c d M hM ps q q' qu nm bd n tr ms yes w T hw hn hlen).mono ?_
    rintro e w' ⟨rfl, T', ps', hs, hw', e1, e2, _⟩
    exact ⟨rfl, T', ps', q, q', hs, hw'.mono (by omega), e1, e2, by omega, by omega⟩
  · by_cases h2 : 2 ≤ kind ∧ kind ≤ M
    · refine (stepT_pair hX wb c d M hM.2 ps q q' kind qu nm bd n tr ms yes w T hw h2 hqu (hpos.resolve_left h1) (by omega) (fun w T k p hk hw => callT_any hX (Int.le_refl _) hlm wb c d M ps q q' k p kind qu nm bd n tr ms yes w T hw hk ⟨h2.1, Int.le_trans h2.2 hM.2⟩ hq hq')).mono ?_
      rintro e w' ⟨rfl, T', q1, q1', hs, hw', e1, e2⟩
      exact ⟨rfl, T', ps, q1, q1', hs, hw', by omega, by omega, e1, e2⟩
    · refine (stepT_other hX wb c d M ps q q' kind qu nm bd n tr ms yes w T hw (by omega)).mono ?_
      rintro e w' ⟨rfl, T', q1, q1', hs, hw', e1, e2⟩
      exact ⟨rfl, T', ps, q1, q1', hs, hw'.mono (by omega), by omega, by omega, by omega, by omega⟩

end Go.Proofs.YtockkceclkcgbaaGreatDoor

/- The contract of opened over the program's queue: a new pair, or none where the configuration is none. -/
import Derived.Test.YtgcbooflhdjnhaaT41
import Derived.Test.YtgcbooflhdjnhaaT27
import Derived.Test.YtgcbooflhdjnhaaT28
import Derived.Test.YtgcbooflhdjnhaaT09
namespace Go.Proofs.Ytgcbooflhdjnhaa
open Go.RowKit

theorem WT.keep {X : World → (Nat → Tag) → Nat → Nat → MQ → Prop} {B Bm : Int} (hX : XC X Bm) {S : Tag → Prop} {w w' : World} {T T' : Nat → Tag} {wb : Nat} {c d : Conf} {most : Int} {ps : List Nat} {q q' : Nat} (h : WT X B w T wb c d most ps q q') (hs : Step S w T w' T') (h0 : ¬ S .world) (h0' : ¬ S .row)
    (hb : ∀ t : Tag, 8 ≤ t.c → ¬ S t) (h1 : ∀ i, i < ps.length → ¬ S (.pair i)) (h2 : ∀ i t, i < ps.length → XT i t → ¬ S t) (h3 : ∀ i r k, i < ps.length → ¬ S (.y i r k)) : WT X B w' T' wb c d most ps q q' := by
  obtain ⟨⟨vP, vr, vd, e1, e2, e3, e4⟩, e5⟩ := h
  refine ⟨⟨vP, vr, vd, e1.step hs h0, e2.step hs h0', e3.step hs (hb _ (by simp)) (fun _ _ => hb _ (by simp)), e4.step hs (hb _ (by simp)) (fun _ _ => hb _ (by simp))⟩, fun i p hi => ?_⟩
  have hlt := (List.getElem?_eq_some_iff.1 hi).1
  exact (e5 i p hi).step hX hs (h1 i hlt) (fun t ht => h2 i t hlt ht) (fun r k => h3 i r k hlt)

theorem PairM.step {X : World → (Nat → Tag) → Nat → Nat → MQ → Prop} {B B' : Int} (hX : XC X B') {m : MQ} {S : Tag → Prop} {w w' : World} {T T' : Nat → Tag} {i p : Nat} (h : PairM X B m w T i p) (hs : Step S w T w' T') (h1 : ¬ S (.pair i)) (h2 : ∀ t, XT i t → ¬ S t) (h3 : ∀ r k, ¬ S (.y i r k)) : PairM X B m w' T' i p := by
  obtain ⟨bx, yb, vs, lg, hB, hx, hy, hf⟩ := h
  exact ⟨bx, yb, vs, lg, hB.step hs h1, hX.step hx hs h2, hy.step hs h3, hf⟩

def selC (n : Int) (c d : Conf) : Conf := bif decide (pickQ n 2 = 0) then c else d

theorem info57 : (Try.prog.info? 57).map (fun i => (i.zero, i.size, i.bytes)) = some (some (.pointer none), 1, 8) := by kernel_rfl
theorem info84 : (Try.prog.info? 101).map (fun i => (i.zero, i.size, i.bytes)) = some (some (.agg #[.int .i64 0, .pointer none]), 2, 16) := by kernel_rfl

theorem cells_new2 (w : World) (xs : List Value) (t : TypeId) : ∀ j u, xs[j]? = some u → (w.alloc (.cells xs.toArray t)).cell? ((⟨w.heap.size, 0, none⟩ : Addr).add j) = some u := by
  intro j u hj
  have h := heap_alloc_new w (.cells xs.toArray t)
  rw [Addr.add_lit, Nat.zero_add]
  unfold World.cell?
  simp only [h]
  simpa using hj

set_option maxHeartbeats 400000 in
theorem pickq_same (c n : Int) (w : World) (h0 : -9223372036854775808 ≤ c) (h1 : c ≤ 9223372036854775807) (hn : 1 ≤ n) (hn1 : n ≤ 9223372036854775807) :
    Calls Try.prog 37 #[.int .i64 c, .int .i64 n] w fun e w' => e = .returned (.int .i64 (pickQ c n)) ∧ w' = w := by
  by_cases hc : c < 0
  · go_enter Try.func37, Try.ntmps37
    go_wp2
    go_ret
    exact ⟨by simp [pickQ, hc], rfl⟩
  · go_enter Try.func37, Try.ntmps37
    go_wp2
    go_ret
    refine ⟨?_, rfl⟩
    rw [pickQ, if_neg (by omega), Int.tmod_eq_emod_of_nonneg hc]; rfl

/-- Copy of a queue that has nothing yet, and the stand that is appended behind it -/
theorem ycopy_stand (yb pb i bx : Nat) (C : Conf) (w : World) (T : Nat → Tag) (hY : Blk w T (.y i 0 0) yb #[.int .i64 C.l, .int .i64 C.d, .int .i64 C.s, .int .i64 C.k, .slice none 0 0, .int .i64 0, .slice none 0 0, .int .i64 0, .int .i64 0] 97)
    (hP : Blk w T (.pair i) pb #[.pointer (some ⟨bx, 0, none⟩), .pointer (some ⟨yb, 0, none⟩), .int .i64 C.l, .int .i64 C.d, .int .i64 C.s, .int .i64 C.k, .slice none 0 0, .string ⟨#[]⟩] 56) :
    Calls Try.prog 41 #[.pointer (some ⟨yb, 0, none⟩)] w.drew fun e w5 => ∃ p5 g6 cap6 w6 T6, e = .returned (.pointer (some p5)) ∧
      (Builtin.append_ #[54, 54] 54 #[.slice none 0 0, .slice (some ⟨w5.heap.size, 0, none⟩) 1 1]).run Try.prog (w5.alloc (.cells #[.int .i64 0, .pointer (some p5)] 101)) = .ok (.slice (some ⟨g6, 0, none⟩) 1 cap6) w6 ∧
      pb < w5.heap.size ∧ w5.cell? ⟨pb, 6, none⟩ = some (.slice none 0 0) ∧ w5.cell? ⟨pb, 7, none⟩ = some (.string ⟨#[]⟩) ∧ w6.cell? ⟨pb, 6, none⟩ = some (.slice none 0 0) ∧ w6.frozen? ⟨pb, 6, none⟩ = false ∧
      Step (fun t => t = .pair i ∨ t = .free) w T (w6.setCell ⟨pb, 6, none⟩ (.slice (some ⟨g6, 0, none⟩) 1 cap6)) T6 ∧
      Blk (w6.setCell ⟨pb, 6, none⟩ (.slice (some ⟨g6, 0, none⟩) 1 cap6)) T6 (.pair i) pb #[.pointer (some ⟨bx, 0, none⟩), .pointer (some ⟨yb, 0, none⟩), .int .i64 C.l, .int .i64 C.d, .int .i64 C.s, .int .i64 C.k, .slice (some ⟨g6, 0, none⟩) 1 cap6, .string ⟨#[]⟩] 56 := by
  refine (ycopy_fresh yb C w.drew hY.2).mono ?_
  rintro e w5 ⟨p5, rfl, hb5⟩
  obtain ⟨i0, hi, hz0, hz1, hz2⟩ := info_parts info84
  have hb : Below w.heap.size w w5 := (Below.refl w.heap.size w).drew.trans hb5
  have hs5 := step_below (fun _ => False) T hb
  have hP5 := hP.step hs5 (fun h => h)
  have hal := step_alloc w5 T (.cells #[.int .i64 0, .pointer (some p5)] 101) (fun _ => False)
  obtain ⟨g6, cap6, w6, T6, hrun6, hR6, hs6⟩ := run_append_row (P := Try.prog) (tg := .free) 54 54 101 i0 _ 2 16 Try.underlying54 hi hz0 hz1 hz2 rfl (by decide) _ _ _ (row_nil (w5.alloc (.cells #[.int .i64 0, .pointer (some p5)] 101)) T .free 101 2) ⟨w5.heap.size, 0, none⟩ 1 1 [.int .i64 0, .pointer (some p5)] rfl
    (cells_new2 w5 [.int .i64 0, .pointer (some p5)] 101) (by simp [Value.oneCell']) (by decide) (by unfold maxLen; omega) (by omega)
  have hP6 := (hP5.step hal (fun h => h)).step hs6 (by simp)
  refine ⟨p5, g6, cap6, w6, T6, rfl, hrun6, hP5.lt, hP5.cell (j := 6) rfl, hP5.cell (j := 7) rfl, hP6.cell (j := 6) rfl, hP6.frozen 6, ?_, hP6.set 6 _⟩
  exact ((hs5.mono (fun _ h => h.elim)).trans ((step_alloc _ _ _ _).trans (hs6.mono (fun t ht => .inr ht)))).trans (step_setCell _ _ _ _ _ (.inl hP6.1))

theorem pick_two (n : Int) : pickQ n 2 = 0 ∨ pickQ n 2 = 1 := by
  have := pickQ_range n 2 (by decide)
  omega

set_option maxRecDepth 100000 in
set_option maxHeartbeats 2000000 in
theorem opened_any {B Bm : Int} (hX : XC X Bm) (h0B : 0 ≤ B) (wb : Nat) (c d : Conf) (most : Int) (ps : List Nat) (q q' : Nat) (n : Int) (w : World) (T : Nat → Tag) (hw : WT X B w T wb c d most ps q q') (h0 : -9223372036854775808 ≤ n) (h1 : n ≤ 9223372036854775807) (hlen : ps.length + 1 ≤ 17592186044416) :
    Calls Try.prog 17 #[.pointer (some ⟨wb, 0, none⟩), .int .i64 n] w fun e w' => e = .returned (.bool true) ∧
      ∃ T' ps', Step (fun t => t ≠ .old) w T w' T' ∧ WT X B w' T' wb c d most ps' q q' ∧ ps.length ≤ ps'.length ∧ ps'.length ≤ ps.length + 1 ∧ (goodC (selC n c d) = true → ∃ p, ps' = ps ++ [p] ∧ PairM X B ⟨selC n c d, [], 0, [], 0, 0⟩ w' T' ps.length p) := by
  have hw0 := hw
  obtain ⟨⟨vP, vr, vd, hB, hR, hbr, hbd⟩, hprs⟩ := hw
  have l0 := hB.lt
  have k0 := hB.cell (j := 0) rfl
  have k1 := hB.cell (j := 1) rfl
  have k2 := hB.cell (j := 2) rfl
  have k3 := hB.cell (j := 3) rfl
  have k4 := hB.cell (j := 4) rfl
  have k5 := hB.cell (j := 5) rfl
  have k6 := hB.cell (j := 6) rfl
  have k7 := hB.cell (j := 7) rfl
  simp only [List.getElem_toArray, List.getElem_cons_succ, List.getElem_cons_zero] at k0 k1 k2 k3 k4 k5 k6 k7
  clear hB hR hprs hbr hbd
  go_enter Try.func17, Try.ntmps17
  go_wp2_with fail
  go_cut [5] from 11 to 17 (fun v w' => ∃ g, v = .pointer (some ⟨g, 0, none⟩) ∧ w.heap.size ≤ g ∧ w'.heap[g]? = some (.cells (selC n c d).cells 44 (0, 0)) ∧ Below w.heap.size w w')
  case first =>
    rcases pick_two n with hp | hp
    · go_region_law (go_simp; go_at_call 37; refine (pickq_same _ _ _ h0 h1 (by decide) (by decide)).mono ?_; rintro e w1 ⟨rfl, rfl⟩; rw [hp])
      all_goals
        go_wp2_with fail
        go_meet
        exact ⟨w.heap.size, rfl, Nat.le_refl _, (by have e : selC n c d = c := (by simp [selC, hp]); rw [e]; exact heap_alloc_new w _), ((Below.refl _ _).alloc (Nat.le_refl _) _).drew⟩
    · go_region_law (go_simp; go_at_call 37; refine (pickq_same _ _ _ h0 h1 (by decide) (by decide)).mono ?_; rintro e w1 ⟨rfl, rfl⟩; rw [hp])
      all_goals
        go_wp2_with fail
        go_meet
        exact ⟨w.heap.size, rfl, Nat.le_refl _, (by have e : selC n c d = d := (by simp [selC, hp]); rw [e]; exact heap_alloc_new w _), ((Below.refl _ _).alloc (Nat.le_refl _) _).drew⟩
  case rest =>
    obtain ⟨g, rfl, hg, hblk, hb1⟩ := hcut
    generalize wc = w1 at *
    obtain ⟨C, hC⟩ : ∃ C, Hid (C = selC n c d) := ⟨_, hide rfl⟩
    rw [← hC.out] at hblk
    have hK : Blk w1 (fun _ => .free) .free g C.cells 44 := ⟨rfl, hblk⟩
    have gl := hK.lt
    have s0 := hK.cell (j := 0) rfl
    have s1 := hK.cell (j := 1) rfl
    have s2 := hK.cell (j := 2) rfl
    have s3 := hK.cell (j := 3) rfl
    simp only [List.getElem_toArray, List.getElem_cons_succ, List.getElem_cons_zero] at s0 s1 s2 s3
    clear k0 k1 k2 k3 k4 k5 k6 k7 hblk
    have f1 : Step (fun _ => False) w T w1 T := step_below _ T hb1
    go_wp2_with fail
    have hop := xopen_any C ps.length w1 T
    unfold Conf.cells at hop
    refine hop.mono ?_
    clear hop
    rintro e w2 (⟨hg0, rfl, hb2⟩ | ⟨hg1, bx, T2, rfl, hs2, hx⟩)
    · have hK2 := hK.step (step_below (fun _ => False) _ hb2) (fun h => h)
      have u0 := hK2.cell (j := 0) rfl
      have u1 := hK2.cell (j := 1) rfl
      have u2 := hK2.cell (j := 2) rfl
      have u3 := hK2.cell (j := 3) rfl
      simp only [List.getElem_toArray, List.getElem_cons_succ, List.getElem_cons_zero] at u0 u1 u2 u3
      go_wp2_with fail
      have hgo := good_any C w2
      unfold Conf.cells at hgo
      refine hgo.mono ?_
      clear hgo
      rintro e w3 ⟨rfl, hb3⟩
      rw [hg0]
      go_wp2
      go_ret
      have f3 := (f1.trans (step_below _ T hb2)).trans (step_below _ T hb3)
      exact ⟨by first | rfl | simp, T, ps, f3.mono (fun _ h => h.elim), hw0.step hX f3 (fun _ h => h), Nat.le_refl _, Nat.le_succ _, fun h => by rw [← hC.out, hg0] at h; cases h⟩
    · have hK2 := hK.step (T' := fun _ => .free) (S := fun _ => False) ⟨hs2.os, hs2.tape, hs2.output, hs2.size, fun _ _ => rfl, fun k hk _ => hs2.block k hk (fun h => h)⟩ (fun h => h)
      have u0 := hK2.cell (j := 0) rfl
      have u1 := hK2.cell (j := 1) rfl
      have u2 := hK2.cell (j := 2) rfl
      have u3 := hK2.cell (j := 3) rfl
      simp only [List.getElem_toArray, List.getElem_cons_succ, List.getElem_cons_zero] at u0 u1 u2 u3
      go_wp2_with fail
      have hgo := good_any C w2
      unfold Conf.cells at hgo
      refine hgo.mono ?_
      clear hgo
      rintro e w3 ⟨rfl, hb3⟩
      rw [hg1]
      have hK3 := hK2.step (step_below (fun _ => False) _ hb3) (fun h => h)
      have gl3 := hK3.lt
      have v0 := hK3.cell (j := 0) rfl
      have v1 := hK3.cell (j := 1) rfl
      have v2 := hK3.cell (j := 2) rfl
      have v3 := hK3.cell (j := 3) rfl
      simp only [List.getElem_toArray, List.getElem_cons_succ, List.getElem_cons_zero] at v0 v1 v2 v3
      replace hx := hX.step hx (step_below (fun _ => False) T2 hb3) (fun _ _ h => h)
      have f3 := (f1.trans hs2).trans (step_below _ T2 hb3)
      clear s0 s1 s2 s3 u0 u1 u2 u3 hK hK2 hs2 hb3 hb1 f1
      go_wp2_with fail
      go_cut [10] from 42 to 48 (fun v w' => v = .pointer (some ⟨w3.heap.size + 1, 0, none⟩) ∧ w' = ((w3.alloc (.cells #[.int .i64 C.l, .int .i64 C.d, .int .i64 C.s, .int .i64 C.k, .slice none 0 0, .int .i64 0, .slice none 0 0, .int .i64 0, .int .i64 0] 97)).alloc (.cells #[.pointer (some ⟨bx, 0, none⟩), .pointer (some ⟨w3.heap.size, 0, none⟩), .int .i64 C.l, .int .i64 C.d, .int .i64 C.s, .int .i64 C.k, .slice none 0 0, .string ⟨#[]⟩] 56)).drew)
      case first =>
        go_region_law (go_simp; go_at_call 40; refine (log_any _ _).mono ?_; rintro e w4 ⟨rfl, rfl⟩)
        all_goals
          go_wp2_with fail
          go_meet
          exact ⟨by simp, by simp⟩
      case rest =>
        obtain ⟨rfl, hwc⟩ := hcut
        obtain ⟨T4, f5, hYb, hPb, hx5⟩ : ∃ T4, Step (fun _ => False) w T wc T4 ∧ Blk wc T4 (.y ps.length 0 0) w3.heap.size #[.int .i64 C.l, .int .i64 C.d, .int .i64 C.s, .int .i64 C.k, .slice none 0 0, .int .i64 0, .slice none 0 0, .int .i64 0, .int .i64 0] 97 ∧
            Blk wc T4 (.pair ps.length) (w3.heap.size + 1) #[.pointer (some ⟨bx, 0, none⟩), .pointer (some ⟨w3.heap.size, 0, none⟩), .int .i64 C.l, .int .i64 C.d, .int .i64 C.s, .int .i64 C.k, .slice none 0 0, .string ⟨#[]⟩] 56 ∧ X wc T4 ps.length bx ⟨C, [], 0, [], 0, 0⟩ := by
          subst hwc
          have a1 := step_new w3 T2 (.cells #[.int .i64 C.l, .int .i64 C.d, .int .i64 C.s, .int .i64 C.k, .slice none 0 0, .int .i64 0, .slice none 0 0, .int .i64 0, .int .i64 0] 97) (.y ps.length 0 0) (fun _ => False)
          have b1 := blk_new w3 T2 #[.int .i64 C.l, .int .i64 C.d, .int .i64 C.s, .int .i64 C.k, .slice none 0 0, .int .i64 0, .slice none 0 0, .int .i64 0, .int .i64 0] 97 (.y ps.length 0 0)
          generalize hwa : w3.alloc (.cells #[.int .i64 C.l, .int .i64 C.d, .int .i64 C.s, .int .i64 C.k, .slice none 0 0, .int .i64 0, .slice none 0 0, .int .i64 0, .int .i64 0] 97) = wa at *
          have hsz : wa.heap.size = w3.heap.size + 1 := by rw [← hwa]; simp
          have a2 := step_new wa (retag T2 w3.heap.size (.y ps.length 0 0)) (.cells #[.pointer (some ⟨bx, 0, none⟩), .pointer (some ⟨w3.heap.size, 0, none⟩), .int .i64 C.l, .int .i64 C.d, .int .i64 C.s, .int .i64 C.k, .slice none 0 0, .string ⟨#[]⟩] 56) (.pair ps.length) (fun _ => False)
          have b2 := blk_new wa (retag T2 w3.heap.size (.y ps.length 0 0)) #[.pointer (some ⟨bx, 0, none⟩), .pointer (some ⟨w3.heap.size, 0, none⟩), .int .i64 C.l, .int .i64 C.d, .int .i64 C.s, .int .i64 C.k, .slice none 0 0, .string ⟨#[]⟩] 56 (.pair ps.length)
          have a3 := a2.trans (step_below _ _ (Below.refl _ _).drew)
          rw [hsz] at a3 b2
          exact ⟨_, (f3.trans a1).trans a3, b1.step a3 (fun h => h), b2, hX.step (hX.step hx a1 (fun _ _ h => h)) a3 (fun _ _ h => h)⟩
        clear hwc hx f3 v0 v1 v2 v3 hK3 gl gl3
        generalize w3.heap.size = yb at *
        generalize wc = wk at *
        have l6 := hPb.lt
        have n6 := hPb.cell (j := 6) rfl
        have n7 := hPb.cell (j := 7) rfl
        simp only [List.getElem_toArray, List.getElem_cons_succ, List.getElem_cons_zero] at n6 n7
        go_wp2_with fail
        go_cut [64] from 49 to 65 (fun _ w' => ∃ T' vs, Step (fun t => t = .pair ps.length ∨ t = .free) wk T4 w' T' ∧ Blk w' T' (.pair ps.length) (yb + 1) #[.pointer (some ⟨bx, 0, none⟩), .pointer (some ⟨yb, 0, none⟩), .int .i64 C.l, .int .i64 C.d, .int .i64 C.s, .int .i64 C.k, vs, .string ⟨#[]⟩] 56)
        case first =>
          go_region_law (first
            | (refine step_append_known rfl _ _ 54 rfl _ _ _ rfl rfl hrun6 ?_)
            | (go_simp; go_at_call 41; refine (ycopy_stand yb (yb + 1) ps.length bx C _ T4 hYb hPb).mono ?_; rintro e w5 ⟨p5, g6, cap6, w6, T6, rfl, hrun6, l5, o6, o7, x6, y6, z6, k6⟩))
          all_goals
            go_wp2_with fail
            go_meet
            exact ⟨T6, _, z6, k6⟩
        case rest =>
          obtain ⟨T6, vs, z6, k6⟩ := hcut
          generalize wc = wd at *
          have hx6 := hX.step hx5 z6 (by rintro t h1 (rfl | rfl) <;> exact absurd h1.1 (by simp))
          have hY6 := hYb.step z6 (by simp)
          have hpair : PairM X B ⟨C, [], 0, [], 0, 0⟩ wd T6 ps.length (yb + 1) :=
            ⟨bx, yb, vs, ⟨#[]⟩, k6, hx6, ⟨by simp [MQ.rq], by simp [MQ.rq], by simp [MQ.rq], .slice none 0 0, .slice none 0 0, fun _ => .slice none 0 0, fun _ => .slice none 0 0, hY6, row_nil _ _ _ _ _, row_nil _ _ _ _ _, by simp [MQ.rq]⟩, (fit_new C hg1).mono h0B⟩
          have f6 : Step (fun t => t = .pair ps.length ∨ t = .free) w T wd T6 := (f5.mono (fun _ h => h.elim)).trans z6
          obtain ⟨⟨vP6, vr6, vd6, hW6, hR6, hr6, hd6⟩, hprs6⟩ : WT X B wd T6 wb c d most ps q q' := hw0.keep hX f6 (by simp) (by simp) (by rintro t ht (rfl | rfl) <;> simp at ht) (fun i hi => by simp; omega) (by rintro i t hi h1 (rfl | rfl) <;> exact absurd h1.1 (by simp)) (by simp)
          obtain ⟨po, pc, rfl⟩ := row_form hR6
          have lw := hW6.lt
          have c8 := hW6.cell (j := 8) rfl
          simp only [List.getElem_toArray, List.getElem_cons_succ, List.getElem_cons_zero] at c8
          obtain ⟨i0, hi, hz0, hz1, hz2⟩ := info_parts info57
          have hal := step_alloc wd T6 (.cells #[.pointer (some ⟨yb + 1, 0, none⟩)] 57) (fun _ => False)
          have hR6a := hR6.step hal (fun h => h)
          have hW6a := hW6.step hal (fun h => h)
          clear hx5 hYb hPb f5 n6 n7 l6 hx6 hY6 k6 z6 hw0
          go_wp2_with (first
            | (at_builtin; refine wpList_append_row rfl _ _ 48 rfl 57 i0 (.pointer none) 1 8 Try.underlying48 hi hz0 hz1 hz2 rfl (by decide) _ _ _ rfl hR6a ⟨wd.heap.size, 0, none⟩ 1 1 [.pointer (some ⟨yb + 1, 0, none⟩)] rfl rfl (cell_one_new _ _ _) (by simp [Value.oneCell']) (by decide) (by unfold maxLen; omega) (by omega) ?_; intro g7 cap7 w7 T7 hR7 hs7; have hW7 := hW6a.step hs7 (by simp); have d8 := hW7.cell (j := 8) rfl; have e8 := hW7.frozen 8)
            | go_in)
          go_ret
          have hs8 : Step (fun t => t = .world) w7 T7 (w7.setCell ⟨wb, 8, none⟩ (.slice (some ⟨g7, 0, none⟩) (ps.length + 1) cap7)) T7 := step_setCell _ _ _ _ _ hW7.1
          have hs9 : Step (fun t => t = .world ∨ t = .row) wd T6 (w7.setCell ⟨wb, 8, none⟩ (.slice (some ⟨g7, 0, none⟩) (ps.length + 1) cap7)) T7 := (hal.mono (fun _ h => h.elim)).trans ((hs7.mono (fun _ h => .inr h)).trans (hs8.mono (fun _ h => .inl h)))
          have nb : ∀ t : Tag, 8 ≤ t.c → ¬ (t = .world ∨ t = .row) := by rintro t ht (rfl | rfl) <;> simp at ht
          have nx : ∀ i t, XT i t → ¬ (t = .world ∨ t = .row) := by rintro i t h1 (rfl | rfl) <;> exact absurd h1.1 (by simp)
          refine ⟨by first | rfl | simp, T7, ps ++ [yb + 1], (f6.mono (fun t ht e => by rcases ht with h | h <;> rw [h] at e <;> cases e)).trans (hs9.mono (fun t ht e => by rcases ht with h | h <;> rw [h] at e <;> cases e)), ⟨⟨_, vr6, vd6, hW7.set 8 _, by simpa [ptrV] using hR7.step hs8 (by simp), hr6.step hs9 (nb _ (by simp)) (fun _ _ => nb _ (by simp)), hd6.step hs9 (nb _ (by simp)) (fun _ _ => nb _ (by simp))⟩, fun i p hp => ?_⟩, by simp, by simp, fun _ => ⟨_, rfl, by rw [← hC.out]; exact hpair.step hX hs9 (by simp) (nx _) (by simp)⟩⟩
          rcases Nat.lt_or_ge i ps.length with h | h
          · rw [List.getElem?_append_left h] at hp
            exact (hprs6 i p hp).step hX hs9 (by simp) (nx i) (by simp)
          · rw [List.getElem?_append_right h] at hp
            have hk0 : i = ps.length := by
              rcases Nat.lt_or_ge (i - ps.length) 1 with h2 | h2
              · omega
              · rw [List.getElem?_eq_none (by simpa using h2)] at hp; cases hp
            subst hk0
            simp at hp
            subst hp
            exact hpair.pair.step hX hs9 (by simp) (nx _) (by simp)

end Go.Proofs.Ytgcbooflhdjnhaa

/- The contract of opened at All: a new pair with its first stand, or none where the configuration is none. -/
import Derived.Test.YtockkceclkcgbaaGreatDoorA45
import Derived.Test.YtockkceclkcgbaaGreatDoorA46
import Derived.Test.YtockkceclkcgbaaGreatDoorA47
import Derived.Test.YtockkceclkcgbaaGreatDoorA12
namespace Go.Proofs.YtockkceclkcgbaaGreatDoor
open Go.RowKit

def selC (n : Int) (c d : Conf) : Conf := bif decide (pickQ n 2 = 0) then c else d

theorem info57 : (Tryz.prog.info? 42).map (fun i => (i.zero, i.size, i.bytes)) = some (some (.pointer none), 1, 8) := by kernel_rfl
theorem pick_two (n : Int) : pickQ n 2 = 0 ∨ pickQ n 2 = 1 := by
  have := pickQ_range n 2 (by decide)
  omega

set_option maxRecDepth 100000 in
set_option maxHeartbeats 2000000 in
theorem openedA_any {B : Int} {a0 a1 : Addr} (h0B : 0 ≤ B) (wb : Nat) (c d : Conf) (most : Int) (ps : List Nat) (q q' : Nat) (n : Int) (w : World) (T : Nat → Tag) (hw : WA B a0 a1 w T wb c d most ps q q') (h0 : -9223372036854775808 ≤ n) (h1 : n ≤ 9223372036854775807) (hlen : ps.length + 1 ≤ 17592186044416) :
    Calls Tryz.prog 13 #[.pointer (some ⟨wb, 0, none⟩), .int .i64 n] w fun e w' => e = .returned (.bool true) ∧
      ∃ T' ps', Step (fun t => t ≠ .old) w T w' T' ∧ WA B a0 a1 w' T' wb c d most ps' q q' ∧ ps.length ≤ ps'.length ∧ ps'.length ≤ ps.length + 1 ∧ (goodC (selC n c d) = true → ps'.length = ps.length + 1) := by
  have hX := xl 0 (by decide)
  have hw0 := hw
  obtain ⟨vP, vr, vd, hB, hR, hbr, hbd⟩ := hw.blk
  have l0 := hB.lt
  have k0 := hB.cell (j := 0) rfl
  have k1 := hB.cell (j := 1) rfl
  have k2 := hB.cell (j := 2) rfl
  have k3 := hB.cell (j := 3) rfl
  have k4 := hB.cell (j := 4) rfl
  have k5 := hB.cell (j := 5) rfl
  have k6 := hB.cell (j := 6) rfl
  have k7 := hB.cell (j := 7) rfl
  simp only [List.getElem_toArray, List.getElem_cons_succ, List.getElem_cons_zero] at k0 k1 k2 k3 k4 k5 k6 k7
  clear hB hR hbr hbd hw
  go_enter Tryz.func13, Tryz.ntmps13
  go_wp2_with fail
  go_cut [5] from 11 to 17 (fun v w' => ∃ g, v = .pointer (some ⟨g, 0, none⟩) ∧ w.heap.size ≤ g ∧ w'.heap[g]? = some (.cells (selC n c d).cells 23 (0, 0)) ∧ Below w.heap.size w w')
  case first =>
    rcases pick_two n with hp | hp
    · go_region_law (go_simp; go_at_call 38; refine (pickq_same _ _ _ h0 h1 (by decide) (by decide)).mono ?_; rintro e w1 ⟨rfl, rfl⟩; rw [hp])
      all_goals
        go_wp2_with fail
        go_meet
        exact ⟨w.heap.size, rfl, Nat.le_refl _, (by have e : selC n c d = c := (by simp [selC, hp]); rw [e]; exact heap_alloc_new w _), ((Below.refl _ _).alloc (Nat.le_refl _) _).drew⟩
    · go_region_law (go_simp; go_at_call 38; refine (pickq_same _ _ _ h0 h1 (by decide) (by decide)).mono ?_; rintro e w1 ⟨rfl, rfl⟩; rw [hp])
      all_goals
        go_wp2_with fail
        go_meet
        exact ⟨w.heap.size, rfl, Nat.le_refl _, (by have e : selC n c d = d := (by simp [selC, hp]); rw [e]; exact heap_alloc_new w _), ((Below.refl _ _).alloc (Nat.le_refl _) _).drew⟩
  case rest =>
    obtain ⟨g, rfl, hg, hblk, hb1⟩ := hcut
    generalize wc = w1 at *
    obtain ⟨C, hC⟩ : ∃ C, Hid (C = selC n c d) := ⟨_, hide rfl⟩
    rw [← hC.out] at hblk
    have hK : Blk w1 (fun _ => .free) .free g C.cells 23 := ⟨rfl, hblk⟩
    have gl := hK.lt
    have s0 := hK.cell (j := 0) rfl
    have s1 := hK.cell (j := 1) rfl
    have s2 := hK.cell (j := 2) rfl
    have s3 := hK.cell (j := 3) rfl
    simp only [List.getElem_toArray, List.getElem_cons_succ, List.getElem_cons_zero] at s0 s1 s2 s3
    clear k0 k1 k2 k3 k4 k5 k6 k7 hblk
    obtain ⟨T0, hT0⟩ : ∃ T0, T0 = retag T g .free := ⟨_, rfl⟩
    have f1 : Step (fun _ => False) w T w1 T0 := ⟨hb1.os, hb1.tape, hb1.output, hb1.size, fun k hk => by rw [hT0, retag_other _ _ _ (by omega)], fun k hk _ => hb1.block k hk⟩
    have hK0 : Blk w1 T0 .free g C.cells 23 := ⟨by rw [hT0]; exact retag_same _ _ _, hK.2⟩
    go_wp2_with fail
    have hop := xopenL_any C ps.length w1 T0
    unfold Conf.cells at hop
    refine hop.mono ?_
    clear hop
    rintro e w2 (⟨hg0, rfl, hb2⟩ | ⟨hg1, bx, T2, rfl, hs2, hx⟩)
    · have hK2 := hK.step (step_below (fun _ => False) _ hb2) (fun h => h)
      have u0 := hK2.cell (j := 0) rfl
      have u1 := hK2.cell (j := 1) rfl
      have u2 := hK2.cell (j := 2) rfl
      have u3 := hK2.cell (j := 3) rfl
      simp only [List.getElem_toArray, List.getElem_cons_succ, List.getElem_cons_zero] at u0 u1 u2 u3
      go_wp2_with fail
      have hgo := good_any C w2
      unfold Conf.cells at hgo
      refine hgo.mono ?_
      clear hgo
      rintro e w3 ⟨rfl, hb3⟩
      rw [hg0]
      go_wp2
      go_ret
      have f3 := (f1.trans (step_below _ T0 hb2)).trans (step_below _ T0 hb3)
      exact ⟨by first | rfl | simp, T0, ps, f3.mono (fun _ h => h.elim), hw0.step f3 (fun _ h => h), Nat.le_refl _, Nat.le_succ _, fun h => by rw [← hC.out, hg0] at h; cases h⟩
    · have hK2 := hK0.step hs2 (by rintro ⟨h, _⟩; simp at h)
      have u0 := hK2.cell (j := 0) rfl
      have u1 := hK2.cell (j := 1) rfl
      have u2 := hK2.cell (j := 2) rfl
      have u3 := hK2.cell (j := 3) rfl
      simp only [List.getElem_toArray, List.getElem_cons_succ, List.getElem_cons_zero] at u0 u1 u2 u3
      go_wp2_with fail
      have hgo := good_any C w2
      unfold Conf.cells at hgo
      refine hgo.mono ?_
      clear hgo
      rintro e w3 ⟨rfl, hb3⟩
      rw [hg1]
      have hK3 := hK2.step (step_below (fun _ => False) _ hb3) (fun h => h)
      have gl3 := hK3.lt
      have v0 := hK3.cell (j := 0) rfl
      have v1 := hK3.cell (j := 1) rfl
      have v2 := hK3.cell (j := 2) rfl
      have v3 := hK3.cell (j := 3) rfl
      simp only [List.getElem_toArray, List.getElem_cons_succ, List.getElem_cons_zero] at v0 v1 v2 v3
      have hxm := hx.step (step_below (fun _ => False) T2 hb3) (fun _ _ h => h)
      replace hx : XG w3 T2 ps.length bx ⟨C, [], 0, [], 0, 0⟩ (seedS C, []) := ⟨_, hxm, log_new hg1⟩
      have hlog : ∀ w' : World, Below w3.heap.size w3 w' → Calls Tryz.prog 26 #[.pointer (some ⟨bx, 0, none⟩)] w' fun e w'' => e = .returned (.string ⟨#[]⟩) ∧ w'' = w' := fun w' hb => xlog_any ps.length bx _ w' T2 (hxm.step (step_below (fun _ => False) T2 hb) (fun _ _ h => h))
      have f3 : Step (XT ps.length) w T w3 T2 := ((f1.mono (fun _ h => h.elim)).trans hs2).trans (step_below _ T2 hb3)
      clear s0 s1 s2 s3 u0 u1 u2 u3 hK hK2 hs2 hb3 hb1 f1 hxm hK0
      go_wp2_with fail
      go_cut [10] from 42 to 48 (fun v w' => v = .pointer (some ⟨w3.heap.size + 1, 0, none⟩) ∧ w' = ((w3.alloc (.cells #[.int .i64 C.l, .int .i64 C.d, .int .i64 C.s, .int .i64 C.k, .slice none 0 0, .int .i64 0, .slice none 0 0, .int .i64 0, .int .i64 0] 95)).alloc (.cells #[.pointer (some ⟨bx, 0, none⟩), .pointer (some ⟨w3.heap.size, 0, none⟩), .int .i64 C.l, .int .i64 C.d, .int .i64 C.s, .int .i64 C.k, .slice none 0 0, .string ⟨#[]⟩] 41)).drew)
      case first =>
        go_region_law (go_simp; go_at_call 26; refine (hlog _ (by first | exact (Below.refl _ _).drew | exact ((Below.refl _ _).alloc (Nat.le_refl _) _).drew | exact ((Below.refl _ _).drew).alloc (Nat.le_refl _) _)).mono ?_; rintro e w4 ⟨rfl, rfl⟩)
        all_goals
          go_wp2_with fail
          go_meet
          exact ⟨by simp, by simp⟩
      case rest =>
        obtain ⟨rfl, hwc⟩ := hcut
        obtain ⟨T4, f5, hYb, hPb, hx5⟩ : ∃ T4, Step (XT ps.length) w T wc T4 ∧ Blk wc T4 (.y ps.length 0 0) w3.heap.size #[.int .i64 C.l, .int .i64 C.d, .int .i64 C.s, .int .i64 C.k, .slice none 0 0, .int .i64 0, .slice none 0 0, .int .i64 0, .int .i64 0] 95 ∧
            Blk wc T4 (.pair ps.length) (w3.heap.size + 1) #[.pointer (some ⟨bx, 0, none⟩), .pointer (some ⟨w3.heap.size, 0, none⟩), .int .i64 C.l, .int .i64 C.d, .int .i64 C.s, .int .i64 C.k, .slice none 0 0, .string ⟨#[]⟩] 41 ∧ XG wc T4 ps.length bx ⟨C, [], 0, [], 0, 0⟩ (seedS C, []) := by
          subst hwc
          have a1 := step_new w3 T2 (.cells #[.int .i64 C.l, .int .i64 C.d, .int .i64 C.s, .int .i64 C.k, .slice none 0 0, .int .i64 0, .slice none 0 0, .int .i64 0, .int .i64 0] 95) (.y ps.length 0 0) (fun _ => False)
          have b1 := blk_new w3 T2 #[.int .i64 C.l, .int .i64 C.d, .int .i64 C.s, .int .i64 C.k, .slice none 0 0, .int .i64 0, .slice none 0 0, .int .i64 0, .int .i64 0] 95 (.y ps.length 0 0)
          generalize hwa : w3.alloc (.cells #[.int .i64 C.l, .int .i64 C.d, .int .i64 C.s, .int .i64 C.k, .slice none 0 0, .int .i64 0, .slice none 0 0, .int .i64 0, .int .i64 0] 95) = wa at *
          have hsz : wa.heap.size = w3.heap.size + 1 := by rw [← hwa]; simp
          have a2 := step_new wa (retag T2 w3.heap.size (.y ps.length 0 0)) (.cells #[.pointer (some ⟨bx, 0, none⟩), .pointer (some ⟨w3.heap.size, 0, none⟩), .int .i64 C.l, .int .i64 C.d, .int .i64 C.s, .int .i64 C.k, .slice none 0 0, .string ⟨#[]⟩] 41) (.pair ps.length) (fun _ => False)
          have b2 := blk_new wa (retag T2 w3.heap.size (.y ps.length 0 0)) #[.pointer (some ⟨bx, 0, none⟩), .pointer (some ⟨w3.heap.size, 0, none⟩), .int .i64 C.l, .int .i64 C.d, .int .i64 C.s, .int .i64 C.k, .slice none 0 0, .string ⟨#[]⟩] 41 (.pair ps.length)
          have a3 := a2.trans (step_below _ _ (Below.refl _ _).drew)
          rw [hsz] at a3 b2
          exact ⟨_, (f3.trans (a1.mono (fun _ h => h.elim))).trans (a3.mono (fun _ h => h.elim)), b1.step a3 (fun h => h), b2, hX.step (hX.step hx a1 (fun _ _ h => h)) a3 (fun _ _ h => h)⟩
        clear hwc hx f3 v0 v1 v2 v3 hK3 gl gl3 hlog
        generalize w3.heap.size = yb at *
        generalize wc = wk at *
        have l6 := hPb.lt
        have n6 := hPb.cell (j := 6) rfl
        have n7 := hPb.cell (j := 7) rfl
        simp only [List.getElem_toArray, List.getElem_cons_succ, List.getElem_cons_zero] at n6 n7
        go_wp2_with fail
        have hYq : YQ wk T4 ps.length yb (⟨C, [], 0, [], 0, 0⟩ : MQ).rq := ⟨by simp [MQ.rq], by simp [MQ.rq], by simp [MQ.rq], .slice none 0 0, .slice none 0 0, fun _ => .slice none 0 0, fun _ => .slice none 0 0, hYb, row_nil _ _ _ _ _, row_nil _ _ _ _ _, by simp [MQ.rq]⟩
        obtain ⟨j, hj⟩ := fresh_hi wk T4
        have hpl : ps.length < HI := by unfold HI; omega
        have hij : ps.length ≠ j := by have := hj.1; omega
        have hdr : Step (fun _ => False) wk T4 wk.drew T4 := step_below _ T4 (Below.refl _ _).drew
        have hcp := ycopy_append ps.length yb (yb + 1) bx j hij ⟨C, [], 0, [], 0, 0⟩ 0 ⟨#[]⟩ 0 (.slice none 0 0) 0 [] wk.drew T4 (hYq.step hdr (fun _ _ h => h)) (fit_new C hg1) (hPb.step hdr (fun h => h)) (row_nil _ _ _ _ _) (by omega)
        go_cut [64] from 49 to 65 (fun _ w' => ∃ T' g6 cap6 p5, Step (CpA ps.length j) wk T4 w' T' ∧ Blk w' T' (.pair ps.length) (yb + 1) (pairCells bx yb C (.slice (some ⟨g6, 0, none⟩) 1 cap6) ⟨#[]⟩) 41 ∧ YQ w' T' ps.length yb (⟨C, [], 0, [], 0, 0⟩ : MQ).rq ∧ YQ w' T' j p5 (⟨C, [], 0, [], 0, 0⟩ : MQ).rq ∧ Row w' T' (.st ps.length) 98 2 (.slice (some ⟨g6, 0, none⟩) 1 cap6) 1 [.int .i64 0, .pointer (some ⟨p5, 0, none⟩)])
        case first =>
          go_region_law (first
            | (refine step_append_known rfl _ _ 39 rfl _ _ _ rfl rfl hrun6 ?_)
            | (go_simp; go_at_call 40; refine hcp.mono ?_; rintro e w5 ⟨p5, g6, cap6, w6, T6, rfl, hrun6, l5, o6, o7, x6, y6, z6, k6, u6, v6, r6, _⟩))
          all_goals
            go_wp2_with fail
            go_meet
            exact ⟨T6, g6, cap6, p5, (hdr.mono (fun _ h => h.elim)).trans z6, k6, u6, v6, r6⟩
        case rest =>
          obtain ⟨T6, g6, cap6, p5, z6, k6, u6, v6, r6⟩ := hcut
          clear hcp
          generalize wc = wd at *
          have hx6 := hX.step hx5 z6 cpA_x
          have hpz : PairA B wd T6 ps.length (yb + 1) := by
            refine ⟨.slice (some ⟨g6, 0, none⟩) 1 cap6, ⟨C, [], 0, [], 0, 0⟩, (seedS C, []), [⟨j, p5, ⟨C, [], 0, [], 0, 0⟩, (seedS C, [])⟩], ⟨bx, yb, ⟨C, [], 0, [], 0, 0⟩, k6, ⟨rfl, hx6⟩, u6, (fit_new C hg1).mono h0B⟩, ⟨r6, ?_, ?_, [], _, rfl, rfl⟩, ?_⟩
            · intro s hs
              obtain rfl := List.mem_singleton.1 hs
              exact ⟨hj.1, v6, sok_of hx6 ((fit_new C hg1).mono h0B)⟩
            · intro k a b _ h2
              simp at h2
            · simp
              omega
          have f6 : Step (fun t => XT ps.length t ∨ CpA ps.length j t) w T wd T6 := (f5.mono (fun _ h => .inl h)).trans (z6.mono (fun _ h => .inr h))
          have hfar : Far (fun t => XT ps.length t ∨ CpA ps.length j t) w T := by
            intro k hk ha r q h
            have h1 := hj.2 k (Nat.lt_of_lt_of_le hk f5.size)
            rw [f5.tag k hk] at h1
            rcases h with h | h | h | ⟨r', q', h⟩ | h
            · exact absurd h.1 (by simp)
            · cases h
            · cases h
            · have : (T k).i = j := congrArg Tag.i h
              omega
            · cases h
          have hw6 : WA B a0 a1 wd T6 wb c d most ps q q' := by
            have hjh := hj.1
            refine hw0.keep f6 (by simp [XT, CpA]) (by simp [XT, CpA]) (by simp [XT, CpA]) ?_ (fun i hi => by simp [XT, CpA]; omega) ?_ ?_ (fun i hi => by simp [XT, CpA]; omega) hfar
            · rintro t h1 h2 (⟨h, _⟩ | rfl | rfl | ⟨r, q, rfl⟩ | rfl) <;> first | omega | simp at h1 h2
            · rintro i t hi h1 (⟨_, h⟩ | h)
              · have := h1.2
                omega
              · exact cpA_x t h1 h
            · rintro i r k hi (⟨h, _⟩ | h | h | ⟨r', q', h⟩ | h)
              · simp at h
              · cases h
              · cases h
              · have : i = j := congrArg Tag.i h
                omega
              · cases h
          obtain ⟨vP6, vr6, vd6, hW6, hR6, hr6, hd6⟩ := hw6.blk
          obtain ⟨po, pc, rfl⟩ := row_form hR6
          have lw := hW6.lt
          have c8 := hW6.cell (j := 8) rfl
          simp only [List.getElem_toArray, List.getElem_cons_succ, List.getElem_cons_zero] at c8
          obtain ⟨i0, hi, hz0, hz1, hz2⟩ := info_parts info57
          have hal := step_alloc wd T6 (.cells #[.pointer (some ⟨yb + 1, 0, none⟩)] 42) (fun _ => False)
          have hR6a := hR6.step hal (fun h => h)
          have hW6a := hW6.step hal (fun h => h)
          clear hx5 hYb hPb f5 n6 n7 l6 hx6 k6 z6 hw0 hYq u6 v6 r6 hfar hdr
          go_wp2_with (first
            | (at_builtin; refine wpList_append_row rfl _ _ 27 rfl 42 i0 (.pointer none) 1 8 Tryz.underlying27 hi hz0 hz1 hz2 rfl (by decide) _ _ _ rfl hR6a ⟨wd.heap.size, 0, none⟩ 1 1 [.pointer (some ⟨yb + 1, 0, none⟩)] rfl rfl (cell_one_new _ _ _) (by simp [Value.oneCell']) (by decide) (by unfold maxLen; omega) (by omega) ?_; intro g7 cap7 w7 T7 hR7 hs7; have hW7 := hW6a.step hs7 (by simp); have d8 := hW7.cell (j := 8) rfl; have e8 := hW7.frozen 8)
            | go_in)
          go_ret
          have hs8 : Step (fun t => t = .world) w7 T7 (w7.setCell ⟨wb, 8, none⟩ (.slice (some ⟨g7, 0, none⟩) (ps.length + 1) cap7)) T7 := step_setCell _ _ _ _ _ hW7.1
          have hs9 : Step (fun t => t = .world ∨ t = .row) wd T6 (w7.setCell ⟨wb, 8, none⟩ (.slice (some ⟨g7, 0, none⟩) (ps.length + 1) cap7)) T7 := (hal.mono (fun _ h => h.elim)).trans ((hs7.mono (fun _ h => .inr h)).trans (hs8.mono (fun _ h => .inl h)))
          have nb : ∀ t : Tag, 8 ≤ t.c → ¬ (t = .world ∨ t = .row) := by rintro t ht (rfl | rfl) <;> simp at ht
          have nx : ∀ i t, XT i t → ¬ (t = .world ∨ t = .row) := by rintro i t h1 (rfl | rfl) <;> exact absurd h1.1 (by simp)
          have far9 : Far (fun t => t = .world ∨ t = .row) wd T6 := by
            rintro k _ _ r q (h | h) <;> cases h
          refine ⟨by first | rfl | simp, T7, ps ++ [yb + 1], (f6.mono (fun t ht e => by rcases ht with ⟨h, _⟩ | h | h | ⟨r, q, h⟩ | h <;> rw [e] at h <;> first | cases h | simp at h)).trans (hs9.mono (fun t ht e => by rcases ht with h | h <;> rw [h] at e <;> cases e)), ⟨⟨_, vr6, vd6, hW7.set 8 _, by simpa [ptrV] using hR7.step hs8 (by simp), hr6.step hs9 (nb _ (by simp)) (fun _ _ => nb _ (by simp)), hd6.step hs9 (nb _ (by simp)) (fun _ _ => nb _ (by simp))⟩, hw6.laid.step hs9 (by simp), by simp; omega, fun i p hp => ?_⟩, by simp, by simp, fun _ => by simp⟩
          rcases Nat.lt_or_ge i ps.length with h | h
          · rw [List.getElem?_append_left h] at hp
            exact (hw6.prs i p hp).step hs9 (by simp) (nx i) (by simp) (by simp) far9
          · rw [List.getElem?_append_right h] at hp
            have hk0 : i = ps.length := by
              rcases Nat.lt_or_ge (i - ps.length) 1 with h2 | h2
              · omega
              · rw [List.getElem?_eq_none (by simpa using h2)] at hp; cases hp
            subst hk0
            simp at hp
            subst hp
            exact hpz.step hs9 (by simp) (nx _) (by simp) (by simp) far9

end Go.Proofs.YtockkceclkcgbaaGreatDoor

/- The contract of step at Open, and at a kind that does nothing, at All. -/
namespace Go.Proofs.YtockkceclkcgbaaGreatDoor
open Go.RowKit

attribute [local go_sem] over_cell

set_option maxRecDepth 100000 in
set_option maxHeartbeats 2000000 in
theorem stepA_open {B : Int} {a0 a1 : Addr} (h0B : 0 ≤ B) (wb : Nat) (c d : Conf) (ps : List Nat) (q q' : Nat) (qu : Int) (nm bd : ByteArray) (n tr ms : Int) (yes : Bool) (w : World) (T : Nat → Tag) (hw : WA B a0 a1 w T wb c d 14 ps q q') (hn : i64 n) (hlen : ps.length + 1 ≤ 17592186044416) :
    Calls Tryz.prog 16 #[.pointer (some ⟨wb, 0, none⟩), .agg (opCells 1 qu nm bd n tr ms yes)] w fun e w' => e = .returned (.bool true) ∧
      ∃ T' ps', Step (fun t => t ≠ .old) w T w' T' ∧ WA B a0 a1 w' T' wb c d 14 ps' q q' ∧ ps.length ≤ ps'.length ∧ ps'.length ≤ ps.length + 1 ∧ (goodC (selC n c d) = true → ps'.length = ps.length + 1) := by
  have hw0 := hw
  obtain ⟨vP, vr, vd, hB, hR, hbr, hbd⟩ := hw.blk
  have l0 := hB.lt
  have k11 := hB.cell (j := 11) rfl
  simp only [List.getElem_toArray, List.getElem_cons_succ, List.getElem_cons_zero] at k11
  clear hB hR hbr hbd hw
  have l1 : wb < (w.alloc (.cells (opCells 1 qu nm bd n tr ms yes) 46)).heap.size := by simp; omega
  have l2 : w.heap.size < (w.alloc (.cells (opCells 1 qu nm bd n tr ms yes) 46)).heap.size := by simp
  go_enter Tryz.func16, Tryz.ntmps16
  go_wp2_with fail
  refine wp_region_over (by kernel_rfl) (by kernel_rfl) ?_
  repeat (go_big_quiet_step (fail))
  refine wpQuiet_nil ?_
  rintro _ ⟨x, rfl⟩
  have hb := over_below (w.alloc (.cells (opCells 1 qu nm bd n tr ms yes) 46)) x
  have o0 := hb.cell (p := ⟨w.heap.size, 0, none⟩) l2
  have o4 := hb.cell (p := ⟨w.heap.size, 4, none⟩) l2
  generalize over (w.alloc (.cells (opCells 1 qu nm bd n tr ms yes) 46)) x = w2 at *
  have hs : Step (fun _ => False) w T w2 T := step_below _ T (((Below.refl _ _).alloc (Nat.le_refl _) _).trans (hb.mono (by simp)))
  have hw2 := hw0.step hs (fun _ h => h)
  go_wp2_with fail
  refine (openedA_any h0B wb c d 14 ps q q' n _ T hw2 hn.1 hn.2 hlen).mono ?_
  rintro e w3 ⟨rfl, T3, ps', hs3, hw3, e1, e2, e3⟩
  go_wp2
  go_ret
  exact ⟨rfl, T3, ps', (hs.mono (fun _ h => h.elim)).trans hs3, hw3, e1, e2, e3⟩

set_option maxRecDepth 100000 in
set_option maxHeartbeats 2000000 in
theorem stepA_other {B : Int} {a0 a1 : Addr} (wb : Nat) (c d : Conf) (ps : List Nat) (q q' : Nat) (kind qu : Int) (nm bd : ByteArray) (n tr ms : Int) (yes : Bool) (w : World) (T : Nat → Tag) (hw : WA B a0 a1 w T wb c d 14 ps q q') (hk : kind < 1 ∨ 14 < kind) :
    Calls Tryz.prog 16 #[.pointer (some ⟨wb, 0, none⟩), .agg (opCells kind qu nm bd n tr ms yes)] w (StepA B a0 a1 w T wb c d ps q q') := by
  have hw0 := hw
  obtain ⟨vP, vr, vd, hB, hR, _, _⟩ := hw.blk
  have l0 := hB.lt
  have k11 := hB.cell (j := 11) rfl
  simp only [List.getElem_toArray, List.getElem_cons_succ, List.getElem_cons_zero] at k11
  clear hB hR hw
  have l1 : wb < (w.alloc (.cells (opCells kind qu nm bd n tr ms yes) 46)).heap.size := by simp; omega
  have l2 : w.heap.size < (w.alloc (.cells (opCells kind qu nm bd n tr ms yes) 46)).heap.size := by simp
  have hfin : ∀ {w' : World}, Below (w.alloc (.cells (opCells kind qu nm bd n tr ms yes) 46)).heap.size (w.alloc (.cells (opCells kind qu nm bd n tr ms yes) 46)) w' → StepA B a0 a1 w T wb c d ps q q' (.returned (.bool true)) w' := fun {w'} h => by
    have hs : Step (fun _ => False) w T w' T := step_below _ T (((Below.refl _ _).alloc (Nat.le_refl _) _).trans (h.mono (by simp)))
    exact ⟨rfl, T, ps, q, q', hs.mono (fun _ h => h.elim), (hw0.step hs (fun _ h => h)).mono (by omega), Nat.le_refl _, Nat.le_succ _, by omega, by omega⟩
  by_cases h1 : kind < 1
  · go_enter Tryz.func16, Tryz.ntmps16
    go_wp2_with fail
    refine wp_region_over (by kernel_rfl) (by kernel_rfl) ?_
    repeat (go_big_quiet_step (fail))
    refine wpQuiet_nil ?_
    rintro _ ⟨x, rfl⟩
    have hb := over_below (w.alloc (.cells (opCells kind qu nm bd n tr ms yes) 46)) x
    generalize over (w.alloc (.cells (opCells kind qu nm bd n tr ms yes) 46)) x = w2 at *
    go_wp2
    go_ret
    exact hfin hb
  · have h2 : 14 < kind := by omega
    have h1' : decide (kind < 1) = false := by simp; omega
    go_enter Tryz.func16, Tryz.ntmps16
    go_wp2_with fail
    refine wp_region_over (by kernel_rfl) (by kernel_rfl) ?_
    repeat (go_big_quiet_step (fail))
    refine wpQuiet_nil ?_
    rintro _ ⟨x, rfl⟩
    have hb := over_below (w.alloc (.cells (opCells kind qu nm bd n tr ms yes) 46)) x
    generalize over (w.alloc (.cells (opCells kind qu nm bd n tr ms yes) 46)) x = w2 at *
    go_wp2
    go_ret
    exact hfin hb

end Go.Proofs.YtockkceclkcgbaaGreatDoor

/- The contract of step at All. -/
namespace Go.Proofs.YtockkceclkcgbaaGreatDoor
open Go.RowKit

theorem stepA_any {B : Int} {a0 a1 : Addr} (h0B : 0 ≤ B) (hlm : B ≤ 100000000000) (wb : Nat) (c d : Conf) (ps : List Nat) (q q' : Nat) (kind qu : Int) (nm bd : ByteArray) (n tr ms : Int) (yes : Bool) (w : World) (T : Nat → Tag) (hw : WA B a0 a1 w T wb c d 14 ps q q') (hn : i64 n) (hqu : i64 qu) (hpos : kind = 1 ∨ 0 < ps.length) (hlen : ps.length + 1 ≤ 17592186044416) (hq : q ≤ 900000000) (hq' : q' ≤ 900000000) :
    Calls Tryz.prog 16 #[.pointer (some ⟨wb, 0, none⟩), .agg (opCells kind qu nm bd n tr ms yes)] w (StepA B a0 a1 w T wb c d ps q q') := by
  by_cases h1 : kind = 1
  · subst h1
    refine (stepA_open h0B wb c d ps q q' qu nm bd n tr ms yes w T hw hn hlen).mono ?_
    rintro e w' ⟨rfl, T', ps', hs, hw', e1, e2, _⟩
    exact ⟨rfl, T', ps', q, q', hs, hw'.mono (by omega), e1, e2, by omega, by omega⟩
  · have hp := hpos.resolve_left h1
    by_cases h2 : 2 ≤ kind ∧ kind ≤ 12
    · exact stepA_pair h0B hlm wb c d ps q q' kind qu nm bd n tr ms yes w T hw h2 hqu hp hq hq'
    · by_cases h3 : kind = 13
      · subst h3
        exact stepA_crash hlm wb c d ps q q' qu nm bd n tr ms yes w T hw hn hqu hp
      · by_cases h4 : kind = 14
        · subst h4
          exact stepA_comp hlm wb c d ps q q' qu nm bd n tr ms yes w T hw hqu hp
        · exact stepA_other wb c d ps q q' kind qu nm bd n tr ms yes w T hw (by omega)

end Go.Proofs.YtockkceclkcgbaaGreatDoor

/- The law's world at All as UpTo lays it first; a step that leaves a queue. -/
namespace Go.Proofs.YtockkceclkcgbaaGreatDoor
open Go.RowKit

theorem WA.conf0 {B : Int} {a0 a1 : Addr} {w : World} {T : Nat → Tag} {wb : Nat} {c d : Conf} {most : Int} {ps : List Nat} {q q' : Nat} (h : WA B a0 a1 w T wb c d most ps q q') (c' : Conf) : WA B a0 a1 ((((w.setCell ⟨wb, 0, none⟩ (.int .i64 c'.l)).setCell ⟨wb, 1, none⟩ (.int .i64 c'.d)).setCell ⟨wb, 2, none⟩ (.int .i64 c'.s)).setCell ⟨wb, 3, none⟩ (.int .i64 c'.k)) T wb c' d most ps q q' ∧
    Step (fun t => t = .world) w T ((((w.setCell ⟨wb, 0, none⟩ (.int .i64 c'.l)).setCell ⟨wb, 1, none⟩ (.int .i64 c'.d)).setCell ⟨wb, 2, none⟩ (.int .i64 c'.s)).setCell ⟨wb, 3, none⟩ (.int .i64 c'.k)) T := by
  obtain ⟨⟨vP, vr, vd, hB, hR, hr, hd⟩, hl, hfew, hp⟩ := h
  have hs : Step (fun t => t = .world) w T ((((w.setCell ⟨wb, 0, none⟩ (.int .i64 c'.l)).setCell ⟨wb, 1, none⟩ (.int .i64 c'.d)).setCell ⟨wb, 2, none⟩ (.int .i64 c'.s)).setCell ⟨wb, 3, none⟩ (.int .i64 c'.k)) T :=
    (((step_setCell w T wb 0 _ (S := fun t => t = .world) hB.1).trans (step_setCell _ T wb 1 _ (S := fun t => t = .world) hB.1)).trans (step_setCell _ T wb 2 _ (S := fun t => t = .world) hB.1)).trans (step_setCell _ T wb 3 _ (S := fun t => t = .world) hB.1)
  exact ⟨⟨⟨vP, vr, vd, (((hB.set 0 _).set 1 _).set 2 _).set 3 _, hR.step hs (by simp), hr.step hs (by simp) (by simp), hd.step hs (by simp) (by simp)⟩, hl.step hs (by simp), hfew, fun i p hi => (hp i p hi).step hs (by simp) (by rintro t h1 rfl; exact absurd h1.1 (by simp)) (by simp) (by simp) (by rintro k _ _ r q h; cases h)⟩, hs⟩
theorem WA.conf1 {B : Int} {a0 a1 : Addr} {w : World} {T : Nat → Tag} {wb : Nat} {c d : Conf} {most : Int} {ps : List Nat} {q q' : Nat} (h : WA B a0 a1 w T wb c d most ps q q') (c' : Conf) : WA B a0 a1 ((((w.setCell ⟨wb, 4, none⟩ (.int .i64 c'.l)).setCell ⟨wb, 5, none⟩ (.int .i64 c'.d)).setCell ⟨wb, 6, none⟩ (.int .i64 c'.s)).setCell ⟨wb, 7, none⟩ (.int .i64 c'.k)) T wb c c' most ps q q' ∧
    Step (fun t => t = .world) w T ((((w.setCell ⟨wb, 4, none⟩ (.int .i64 c'.l)).setCell ⟨wb, 5, none⟩ (.int .i64 c'.d)).setCell ⟨wb, 6, none⟩ (.int .i64 c'.s)).setCell ⟨wb, 7, none⟩ (.int .i64 c'.k)) T := by
  obtain ⟨⟨vP, vr, vd, hB, hR, hr, hd⟩, hl, hfew, hp⟩ := h
  have hs : Step (fun t => t = .world) w T ((((w.setCell ⟨wb, 4, none⟩ (.int .i64 c'.l)).setCell ⟨wb, 5, none⟩ (.int .i64 c'.d)).setCell ⟨wb, 6, none⟩ (.int .i64 c'.s)).setCell ⟨wb, 7, none⟩ (.int .i64 c'.k)) T :=
    (((step_setCell w T wb 4 _ (S := fun t => t = .world) hB.1).trans (step_setCell _ T wb 5 _ (S := fun t => t = .world) hB.1)).trans (step_setCell _ T wb 6 _ (S := fun t => t = .world) hB.1)).trans (step_setCell _ T wb 7 _ (S := fun t => t = .world) hB.1)
  exact ⟨⟨⟨vP, vr, vd, (((hB.set 4 _).set 5 _).set 6 _).set 7 _, hR.step hs (by simp), hr.step hs (by simp) (by simp), hd.step hs (by simp) (by simp)⟩, hl.step hs (by simp), hfew, fun i p hi => (hp i p hi).step hs (by simp) (by rintro t h1 rfl; exact absurd h1.1 (by simp)) (by simp) (by simp) (by rintro k _ _ r q h; cases h)⟩, hs⟩

/-- the law's world as it is laid first: two configurations of the caller's in blocks of their own, the world behind them -/
theorem law_startA {a0 a1 : Addr} (c d : Conf) (most : Int) (w : World) (hLd : Laid w (fun _ => .old) a0 a1) : ∃ T, Step (fun _ => False) w (fun _ => .old) (((w.alloc (.cells c.cells 23)).alloc (.cells d.cells 23)).alloc (.cells (wtCells conf0 confZ (.slice none 0 0) (.slice none 0 0) (.slice none 0 0) most) 33)) T ∧
    WA 0 a0 a1 (((w.alloc (.cells c.cells 23)).alloc (.cells d.cells 23)).alloc (.cells (wtCells conf0 confZ (.slice none 0 0) (.slice none 0 0) (.slice none 0 0) most) 33)) T (w.heap.size + 2) conf0 confZ most [] 0 0 ∧
    Blk (((w.alloc (.cells c.cells 23)).alloc (.cells d.cells 23)).alloc (.cells (wtCells conf0 confZ (.slice none 0 0) (.slice none 0 0) (.slice none 0 0) most) 33)) T .old w.heap.size c.cells 23 ∧
    Blk (((w.alloc (.cells c.cells 23)).alloc (.cells d.cells 23)).alloc (.cells (wtCells conf0 confZ (.slice none 0 0) (.slice none 0 0) (.slice none 0 0) most) 33)) T .old (w.heap.size + 1) d.cells 23 := by
  have f1 := step_new w (fun _ => .old) (.cells c.cells 23) .old (fun _ => False)
  have b1 := blk_new w (fun _ => .old) c.cells 23 .old
  generalize hw1 : w.alloc (.cells c.cells 23) = w1 at *
  have s1 : w1.heap.size = w.heap.size + 1 := by rw [← hw1]; simp
  generalize retag (fun _ => Tag.old) w.heap.size .old = T1 at *
  have a2 := step_new w1 T1 (.cells d.cells 23) .old (fun _ => False)
  have b2 := blk_new w1 T1 d.cells 23 .old
  have b1' := b1.step a2 (fun h => h)
  rw [s1] at b2
  rw [s1] at a2 b1'
  generalize hw2 : w1.alloc (.cells d.cells 23) = w2 at *
  have s2 : w2.heap.size = w.heap.size + 2 := by rw [← hw2]; simp [s1]
  generalize retag T1 (w.heap.size + 1) .old = T2 at *
  have a3 := step_new w2 T2 (.cells (wtCells conf0 confZ (.slice none 0 0) (.slice none 0 0) (.slice none 0 0) most) 33) .world (fun _ => False)
  have b3 := blk_new w2 T2 (wtCells conf0 confZ (.slice none 0 0) (.slice none 0 0) (.slice none 0 0) most) 33 .world
  refine ⟨_, (f1.trans a2).trans a3, ⟨⟨.slice none 0 0, .slice none 0 0, .slice none 0 0, ?_, row_nil _ _ _ _ _, bk_nil _ _ _ _ _ _, bk_nil _ _ _ _ _ _⟩, ((hLd.step f1 (fun h => h)).step a2 (fun h => h)).step a3 (fun h => h), by simp, fun i p h => by simp at h⟩, b1'.step a3 (fun h => h), b2.step a3 (fun h => h)⟩
  rw [s2] at b3
  rw [s2]
  exact b3

/-- a step that leaves a queue -/
theorem stepA_pos {B : Int} {a0 a1 : Addr} (h0B : 0 ≤ B) (hlm : B ≤ 100000000000) (wb : Nat) (c d : Conf) (ps : List Nat) (q q' : Nat) (kind qu : Int) (nm bd : ByteArray) (n tr ms : Int) (yes : Bool) (w : World) (T : Nat → Tag) (hw : WA B a0 a1 w T wb c d 14 ps q q') (hn : i64 n) (hqu : i64 qu) (hpos : 0 < ps.length ∨ (kind = 1 ∧ goodC (selC n c d) = true)) (hlen : ps.length + 1 ≤ 17592186044416) (hq : q ≤ 900000000) (hq' : q' ≤ 900000000) :
    Calls Tryz.prog 16 #[.pointer (some ⟨wb, 0, none⟩), .agg (opCells kind qu nm bd n tr ms yes)] w fun e w' => e = .returned (.bool true) ∧ ∃ T' ps' q1 q1', Step (fun t => t ≠ .old) w T w' T' ∧ WA (B + 60000) a0 a1 w' T' wb c d 14 ps' q1 q1' ∧ 0 < ps'.length ∧ ps'.length ≤ ps.length + 1 ∧ q1 ≤ q + 2 ∧ q1' ≤ q' + 2 := by
  rcases hpos with hpos | ⟨rfl, hg⟩
  · refine (stepA_any h0B hlm wb c d ps q q' kind qu nm bd n tr ms yes w T hw hn hqu (.inr hpos) hlen hq hq').mono ?_
    rintro e w' ⟨rfl, T', ps', q1, q1', hs, hw', e1, e2, e3, e4⟩
    exact ⟨rfl, T', ps', q1, q1', hs, hw', by omega, e2, e3, e4⟩
  · refine (stepA_open h0B wb c d ps q q' qu nm bd n tr ms yes w T hw hn hlen).mono ?_
    rintro e w' ⟨rfl, T', ps', hs, hw', e1, e2, e3⟩
    have := e3 hg
    exact ⟨rfl, T', ps', q, q', hs, hw'.mono (by omega), by omega, e2, by omega, by omega⟩

end Go.Proofs.YtockkceclkcgbaaGreatDoor

/- Opens, walked: it returns true and changes nothing that was there. -/
import Derived.Test.YtedbcmlekjagpaaP6
namespace Go.Proofs.Ytedbcmlekjagpaa
open Go.RowKit

theorem notOld_world {S : Tag → Prop} {w w' : World} {T T' : Nat → Tag} (h : Step S w T w' T') (hS : ¬ S .old) : Step (fun t => t ≠ .old) w T w' T' := h.mono (fun t ht e => hS (by rw [← e]; exact ht))

set_option maxRecDepth 100000 in
set_option maxHeartbeats 4000000 in
theorem opens_any (c d : Conf) (l : List OpV) (ao : Option Addr) (cap : Nat) (w : World) (hl : ArgO w ao l) (hlen : l.length ≤ 1759218604441) :
    Calls Try.prog 4 #[.agg c.cells, .agg d.cells, .slice ao l.length cap] w fun e w' => e = .returned (.bool true) ∧ Below w.heap.size w w' := by
  obtain ⟨T1, f1, hw1, hc1, hd1⟩ := opens_start c d w
  go_enter Try.func4, Try.ntmps4
  go_wp2_with fail
  have hop := opened_any (w.heap.size + 2) conf0 confZ [] 0 _ T1 hw1 (by decide) (by decide) (by simp)
  refine hop.mono ?_
  clear hop
  rintro e w2 ⟨rfl, T2, ps, hs2, hw2, _, _, hnew⟩
  obtain ⟨p, rfl, hpq⟩ := hnew (by decide)
  have hq0 : selC 0 conf0 confZ = conf0 := by rfl
  rw [hq0] at hpq
  have hc2 := hc1.step hs2 (by simp)
  have hd2 := hd1.step hs2 (by simp)
  have f2 := (notOld_world f1 (fun h => h)).trans hs2
  clear hw1 hc1 hd1 f1 hs2 hq0
  generalize w.heap.size + 2 = wb at *
  -- the first message
  have hw2k := hw2
  obtain ⟨⟨vP, hB, hR⟩, _⟩ := hw2
  obtain ⟨gb, gc, e⟩ := row_some hR (by simp)
  subst e
  obtain ⟨bx, yb, vs, hP, hx, hy, _⟩ := hpq
  have k8 := hB.cell (j := 8) rfl
  have kp : w2.cell? ⟨gb, 0, none⟩ = some (.pointer (some ⟨p, 0, none⟩)) := hR.cell (by simp [ptrV])
  have p0 := hP.cell (j := 0) rfl
  simp only [List.getElem_toArray, List.getElem_cons_succ, List.getElem_cons_zero, List.length_append, List.length_nil, List.length_cons, Nat.zero_add] at k8 p0
  go_wp2_with fail
  refine (xenqueue_any 0 bx conf0 [] [] letterA _ T2 hx).mono ?_
  rintro e w3 ⟨rfl, T3, hs3, hx3⟩
  rw [show enqN letterA.size ([] : List Value).length conf0.k = 0 from rfl, show enqE letterA.size ([] : List Value).length conf0.k = 0 from rfl]
  have hB3 := hB.step hs3 (by simp)
  have hR3 := hR.step hs3 (by simp)
  have hP3 := hP.step hs3 (by simp)
  have hy3 := hy.step hs3 (by simp)
  have m8 := hB3.cell (j := 8) rfl
  have mp : w3.cell? ⟨gb, 0, none⟩ = some (.pointer (some ⟨p, 0, none⟩)) := hR3.cell (by simp [ptrV])
  have m1 := hP3.cell (j := 1) rfl
  simp only [List.getElem_toArray, List.getElem_cons_succ, List.getElem_cons_zero, List.length_append, List.length_nil, List.length_cons, Nat.zero_add] at m8 m1
  clear k8 kp p0
  go_wp2_with fail
  refine (yenqueue_any 0 yb _ letterA _ T3 hy3).mono ?_
  rintro e w4 ⟨rfl, T4, hs4, hy4⟩
  have hs24 : Step (Si 0) w2 T2 w4 T4 := (hs3.mono (fun _ h => .inl h)).trans (hs4.mono (fun _ h => .inr h))
  have hpr : PairI w4 T4 0 p := ⟨bx, yb, _, vs, hP3.step hs4 (by simp), hx3.step hs4 (by simp), hy4, rfl⟩
  have hw4 := hw2k.pair hs24 rfl hpr
  have hc4 := hc2.step hs24 (by simp [Si])
  have hd4 := hd2.step hs24 (by simp [Si])
  have f4 := f2.trans (notOld_world hs24 (by simp [Si]))
  clear hB hR hP hx hy hB3 hR3 hP3 hy3 m8 mp m1 hx3 hy4 hs3 hs4 hs24 hpr hw2k hc2 hd2 f2 hnew
  generalize hps : ([] ++ [p] : List Nat) = ps at *
  have hps1 : ps.length = 1 := by rw [← hps]; rfl
  clear hps
  -- the caller's two configurations
  obtain ⟨hw5, hs5⟩ := hw4.conf0 c
  obtain ⟨⟨vP4, hB4, hR4⟩, _⟩ := hw4
  have e0 := hB4.cell (j := 0) rfl
  have e1 := hB4.cell (j := 1) rfl
  have e2 := hB4.cell (j := 2) rfl
  have e3 := hB4.cell (j := 3) rfl
  have z0 := hB4.frozen 0
  have z1 := hB4.frozen 1
  have z2 := hB4.frozen 2
  have z3 := hB4.frozen 3
  have g0 := hc4.cell (j := 0) rfl
  have g1 := hc4.cell (j := 1) rfl
  have g2 := hc4.cell (j := 2) rfl
  have g3 := hc4.cell (j := 3) rfl
  simp only [List.getElem_toArray, List.getElem_cons_succ, List.getElem_cons_zero] at e0 e1 e2 e3 g0 g1 g2 g3
  go_wp2_with fail
  go_region
  have hw5d := hw5.step (step_below (fun _ => False) T4 (Below.refl _ _).drew) (fun h => h) (fun h => h) (fun _ _ h => h) (fun _ _ _ h => h) (fun _ _ _ _ h => h)
  have hs5d := hs5.trans (step_below (fun t => t = .world) T4 (Below.refl _ _).drew)
  have hc5 := hc4.step hs5d (by simp)
  have hd5 := hd4.step hs5d (by simp)
  have f5 := f4.trans (notOld_world hs5d (by simp))
  clear hw5 hs5 hs5d hB4 hR4 e0 e1 e2 e3 z0 z1 z2 z3 g0 g1 g2 g3 hc4 hd4 f4
  generalize ((((w4.setCell ⟨wb, 0, none⟩ (.int .i64 c.l)).setCell ⟨wb, 1, none⟩ (.int .i64 c.d)).setCell ⟨wb, 2, none⟩ (.int .i64 c.s)).setCell ⟨wb, 3, none⟩ (.int .i64 c.k)).drew = w5 at *
  obtain ⟨hw6, hs6⟩ := hw5d.conf1 d
  obtain ⟨⟨vP5, hB5, hR5⟩, _⟩ := hw5d
  have e4 := hB5.cell (j := 4) rfl
  have e5 := hB5.cell (j := 5) rfl
  have e6 := hB5.cell (j := 6) rfl
  have e7 := hB5.cell (j := 7) rfl
  have z4 := hB5.frozen 4
  have z5 := hB5.frozen 5
  have z6 := hB5.frozen 6
  have z7 := hB5.frozen 7
  have g0 := hd5.cell (j := 0) rfl
  have g1 := hd5.cell (j := 1) rfl
  have g2 := hd5.cell (j := 2) rfl
  have g3 := hd5.cell (j := 3) rfl
  simp only [List.getElem_toArray, List.getElem_cons_succ, List.getElem_cons_zero] at e4 e5 e6 e7 g0 g1 g2 g3
  go_wp2_with fail
  go_region
  have hw6d := hw6.step (step_below (fun _ => False) T4 (Below.refl _ _).drew) (fun h => h) (fun h => h) (fun _ _ h => h) (fun _ _ _ h => h) (fun _ _ _ _ h => h)
  have hs6d := hs6.trans (step_below (fun t => t = .world) T4 (Below.refl _ _).drew)
  have f6 := f5.trans (notOld_world hs6d (by simp))
  clear hw6 hs6 hs6d hB5 hR5 e4 e5 e6 e7 z4 z5 z6 z7 g0 g1 g2 g3 hc5 hd5 f5
  generalize ((((w5.setCell ⟨wb, 4, none⟩ (.int .i64 d.l)).setCell ⟨wb, 5, none⟩ (.int .i64 d.d)).setCell ⟨wb, 6, none⟩ (.int .i64 d.s)).setCell ⟨wb, 7, none⟩ (.int .i64 d.k)).drew = w6 at *
  -- two queues of them
  go_wp2_with fail
  refine (opened_any wb c d ps 0 _ T4 hw6d (by decide) (by decide) (by omega)).mono ?_
  rintro e w7 ⟨rfl, T7, ps7, hs7, hw7, a7, b7, _⟩
  have f7 := f6.trans hs7
  go_wp2_with fail
  refine (opened_any wb c d ps7 1 _ T7 hw7 (by decide) (by decide) (by omega)).mono ?_
  rintro e w8 ⟨rfl, T8, ps8, hs8, hw8, a8, b8, _⟩
  have f8 := f7.trans hs8
  clear hs7 hs8 f7 f6 hw6d hw7
  have hp8 : 0 < ps8.length := by omega
  have hq8 : ps8.length ≤ 3 := by omega
  clear a7 b7 a8 b8 hps1
  go_wp2_with fail
  go_loopw [13] (fun x wr => ∃ (k : Nat) (T' : Nat → Tag) (qs : List Nat), k ≤ l.length ∧ x = .int .i64 k ∧ Step (fun t => t ≠ .old) w (fun _ => .old) wr T' ∧ WI wr T' wb c d qs ∧ 0 < qs.length ∧ qs.length ≤ k + 3) (fun x _ => l.length - (intOf x).toNat)
  case atStart => exact ⟨0, T8, ps8, Nat.zero_le _, rfl, f8, hw8, hp8, by omega⟩
  case round =>
    obtain ⟨k, T', qs, hk, rfl, hs, hw, hp, hq⟩ := hrel
    clear hw8 f8 hp8 hq8
    by_cases hlt : k < l.length
    · obtain ⟨o, ho⟩ : ∃ o, l[k]? = some o := ⟨_, List.getElem?_eq_getElem hlt⟩
      obtain ⟨h1, h2, ob, off, rfl, hob, hcl⟩ := hl k o ho
      have q0 := (hs.cell (p := ⟨ob, off + k * 8 + 0, none⟩) hob (by simp)).trans (hcl 0 _ rfl)
      have q1 := (hs.cell (p := ⟨ob, off + k * 8 + 1, none⟩) hob (by simp)).trans (hcl 1 _ rfl)
      have q2 := (hs.cell (p := ⟨ob, off + k * 8 + 2, none⟩) hob (by simp)).trans (hcl 2 _ rfl)
      have q3 := (hs.cell (p := ⟨ob, off + k * 8 + 3, none⟩) hob (by simp)).trans (hcl 3 _ rfl)
      have q4 := (hs.cell (p := ⟨ob, off + k * 8 + 4, none⟩) hob (by simp)).trans (hcl 4 _ rfl)
      have q5 := (hs.cell (p := ⟨ob, off + k * 8 + 5, none⟩) hob (by simp)).trans (hcl 5 _ rfl)
      have q6 := (hs.cell (p := ⟨ob, off + k * 8 + 6, none⟩) hob (by simp)).trans (hcl 6 _ rfl)
      have q7 := (hs.cell (p := ⟨ob, off + k * 8 + 7, none⟩) hob (by simp)).trans (hcl 7 _ rfl)
      rw [Nat.add_zero] at q0
      simp only [List.getElem_toArray, List.getElem_cons_succ, List.getElem_cons_zero] at q0 q1 q2 q3 q4 q5 q6 q7
      clear hl hcl
      go_wp2_with fail
      have hst := step_any wb c d qs o.kind o.qu o.nm o.bd o.n o.tr o.ms o.yes wr T' hw h1 h2 hp (by omega)
      unfold opCells at hst
      refine hst.mono ?_
      clear hst
      rintro e w9 ⟨rfl, T9, qs9, hs9, hw9, a9, b9⟩
      go_wp2
      refine ⟨⟨k + 1, T9, qs9, by omega, by simp, hs.trans hs9, hw9, by omega, by omega⟩, by simp [intOf]; omega⟩
    · go_wp2_with fail
      go_loopw [14] (fun x wx => ∃ (j : Nat), j ≤ qs.length ∧ x = .int .i64 j ∧ Step (fun t => t ≠ .old) w (fun _ => .old) wx T' ∧ WI wx T' wb c d qs) (fun x _ => qs.length - (intOf x).toNat)
      case atStart => exact ⟨0, Nat.zero_le _, rfl, hs, hw⟩
      case round =>
        obtain ⟨j, hj, rfl, hsj, hwj⟩ := hrel
        have hwk := hwj
        obtain ⟨⟨vP, hB, hR⟩, hprs⟩ := hwj
        obtain ⟨gb', gc', e⟩ := row_some hR hp
        subst e
        have k8 := hB.cell (j := 8) rfl
        simp only [List.getElem_toArray, List.getElem_cons_succ, List.getElem_cons_zero] at k8
        clear hs hw
        by_cases hjt : j < qs.length
        · obtain ⟨pj, hpj⟩ : ∃ pj, qs[j]? = some pj := ⟨_, List.getElem?_eq_getElem hjt⟩
          have kp : wr.cell? ⟨gb', j, none⟩ = some (.pointer (some ⟨pj, 0, none⟩)) := hR.cell (by simp [hpj, ptrV])
          have hpr := hprs j pj hpj
          clear hB hR hprs hl
          go_wp2_with fail
          refine (told_span j pj _ _ _ T' hpr).mono ?_
          rintro e w9 ⟨rfl, hb9⟩
          go_wp2
          refine ⟨⟨j + 1, by omega, by simp, hsj.trans (step_below _ T' hb9), hwk.step (step_below (fun _ => False) T' hb9) (fun h => h) (fun h => h) (fun _ _ h => h) (fun _ _ _ h => h) (fun _ _ _ _ h => h)⟩, by simp [intOf]; omega⟩
        · clear hB hR hprs hl
          go_wp2
          go_ret
          refine ⟨rfl, hsj.os, hsj.tape, hsj.output, hsj.size, fun k hk => hsj.block k hk (by simp)⟩

end Go.Proofs.Ytedbcmlekjagpaa

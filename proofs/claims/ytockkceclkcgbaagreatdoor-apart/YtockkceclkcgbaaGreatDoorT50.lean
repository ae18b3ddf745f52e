/- Apart, walked: it returns true and changes nothing that was there. -/
import Derived.Test.YtockkceclkcgbaaGreatDoorT36
import Derived.Test.YtockkceclkcgbaaGreatDoorT28
import Derived.ProofKit
import Derived.Deep.Slices
import Derived.Lib.SmallJoins
import Derived.OpenShut
import Derived.SizedLaws
namespace Go.Proofs.YtockkceclkcgbaaGreatDoor
open Go.RowKit

abbrev Tag.pa : Tag := ⟨28, 0, 0, 0⟩
abbrev Tag.pb : Tag := ⟨29, 0, 0, 0⟩
theorem ut_pa (i : Nat) : ¬ UT i .pa := by rintro (h | h) <;> simp [XT, RT] at h
theorem ut_pb (i : Nat) : ¬ UT i .pb := by rintro (h | h) <;> simp [XT, RT] at h

/-- both runs are played, and are alike -/
structure Both (X : World → (Nat → Tag) → Nat → Nat → MQ → Prop) (B : Int) (w : World) (T : Nat → Tag) (ba bb : Nat) : Prop where
  ex : ∃ ma mb La Lb, Play X B w T 0 ba ma La ∧ Play X B w T 1 bb mb Lb ∧ Twin ma mb La Lb

theorem play_group {X : World → (Nat → Tag) → Nat → Nat → MQ → Prop} {B : Int} {w : World} {T : Nat → Tag} {i b : Nat} {m : MQ} {L : Nat → List Nat} (_h : Play X B w T i b m L) {k : Nat} (hk : k < m.groups.length) : ∃ g, m.groups[k]? = some g := ⟨_, List.getElem?_eq_getElem hk⟩

attribute [local go_sem] over_cell

set_option maxRecDepth 100000 in
set_option maxHeartbeats 8000000 in
theorem kapart_any (l : List Int) (s : List StV) (ao so : Option Addr) (cap scap : Nat) (w : World) (hl : ArgI w ao l) (hs : ArgS w so s) (hlen : l.length ≤ 9223372036854775807) (hsl : s.length ≤ 4398046511104) :
    Calls Tryz.prog 10 #[.slice ao l.length cap, .slice so s.length scap] w fun e w' => e = .returned (.bool true) ∧ Below w.heap.size w w' := by
  have hX := xc 3000000000000000000 (by decide)
  go_enter Tryz.func10, Tryz.ntmps10
  go_wp2_with fail
  refine (begin_any hX (by decide) 0 l ao cap w (fun _ => .old) hl hlen).mono ?_
  rintro e w1 ⟨ba, rfl, T1, s1, p1⟩
  have f1 : Step (fun t => t ≠ .old) w (fun _ => .old) w1 T1 := s1.mono (fun _ h => ut_old h)
  have hb1 : Below w.heap.size w w1 := ⟨f1.os, f1.tape, f1.output, f1.size, fun k hk => f1.block k hk (by simp)⟩
  go_wp2_with fail
  refine (begin_any hX (by decide) 1 l ao cap w1 T1 (hl.below hb1) hlen).mono ?_
  rintro e w2 ⟨bb, rfl, T2, s2, p2⟩
  have f2 := f1.trans (s2.mono (fun _ h => ut_old h))
  have p1' := p1.step hX s2 (ut_ne (by decide))
  clear p1 s1 s2 f1 hb1
  obtain ⟨bx2, gb2, gc2, hx2, hr2, hf2, hn2, hp2⟩ := p2
  have hg2 := rgroup_any hX (by decide : (0 : Int) ≤ _) 1 bb bx2 (q4 (madeC l)) L3 0 w2 T2 hx2 hf2 hr2.run hn2 (by show (1 : Nat) < 6; decide) (by decide) (by decide)
  go_wp2_with fail
  refine hg2.mono ?_
  clear hg2
  rintro e w3 ⟨rfl, T3, s3, hx3, hr3, hf3, hn3⟩
  have e1 : (q4 (madeC l)).groups.length = 1 := rfl
  rw [e1] at hx3 hr3 hf3 hn3
  have htw := twin_begin (madeC l)
  have hgl := htw.lb
  generalize mgrpM (q4 (madeC l)) (nameB 1) (startOf (q4 (madeC l)) 0) = mb at *
  obtain ⟨gb3, gc3, hr3'⟩ := RunM.named hr3 (by omega)
  have hboth : Both X 0 w3 T3 ba bb := ⟨q4 (madeC l), mb, L3, L3, p1'.step hX s3 (ut_ne (by decide)), ⟨bx2, gb3, gc3, hx3, hr3', hf3, hn3, by omega⟩, htw⟩
  have f3 := f2.trans (s3.mono (fun _ h => ut_old h))
  clear hx3 hr3 hr3' hf3 hn3 htw hgl p1' f2 s3 hx2 hr2 hf2 hn2 hp2 e1
  go_wp2_with fail
  go_loopw [7] (fun v wr => ∃ (j : Nat) (T' : Nat → Tag), j ≤ s.length ∧ v = .int .i64 j ∧ Step (fun t => t ≠ .old) w (fun _ => .old) wr T' ∧ Both X (60000 * j) wr T' ba bb) (fun v _ => s.length - (intOf v).toNat)
  case atStart => exact ⟨0, T3, Nat.zero_le _, rfl, f3, by simpa using hboth⟩
  case round =>
    obtain ⟨j, T4, hj, rfl, f4, hb4⟩ := hrel
    clear f3 hboth
    by_cases hlt : j < s.length
    · obtain ⟨o, ho⟩ : ∃ o, s[j]? = some o := ⟨_, List.getElem?_eq_getElem hlt⟩
      obtain ⟨hG, hn, hms, ob, off, rfl, hob, hcl⟩ := hs j o ho
      have q0 := (f4.cell (p := ⟨ob, off + j * 4 + 0, none⟩) hob (by simp)).trans (hcl 0 _ rfl)
      have q1 := (f4.cell (p := ⟨ob, off + j * 4 + 1, none⟩) hob (by simp)).trans (hcl 1 _ rfl)
      have q2 := (f4.cell (p := ⟨ob, off + j * 4 + 2, none⟩) hob (by simp)).trans (hcl 2 _ rfl)
      have q3 := (f4.cell (p := ⟨ob, off + j * 4 + 3, none⟩) hob (by simp)).trans (hcl 3 _ rfl)
      rw [Nat.add_zero] at q0
      simp only [StV.cells, List.getElem_toArray, List.getElem_cons_succ, List.getElem_cons_zero] at q0 q1 q2 q3
      obtain ⟨kind, G, n, ms⟩ := o
      simp only at q0 q1 q2 q3 hG hn hms
      clear hl hcl ho hs
      obtain ⟨ma, mb, La, Lb, pa, pb, tw⟩ := hb4.ex
      obtain ⟨ga, hga⟩ := play_group pa (k := 0) (by rw [tw.la]; decide)
      obtain ⟨g1, hg1⟩ := play_group pb (k := 1) (by rw [tw.lb]; decide)
      have hgb : mb.groups[0]? = some ga := by rw [tw.g]; exact hga
      have hka : pickQ 0 ma.groups.length = (0 : Nat) := by rw [tw.la]; rfl
      have hkb : pickQ 0 mb.groups.length = (0 : Nat) := by rw [tw.lb]; rfl
      have hk1 : pickQ 1 mb.groups.length = (1 : Nat) := by rw [tw.lb]; rfl
      have sn := step_new wr T4 (.cells #[.int .i64 kind, .int .i64 G, .int .i64 n, .int .i64 ms] 85) .free (fun _ => False)
      have sn0 := step_new wr T4 (.cells #[.int .i64 kind, .int .i64 0, .int .i64 n, .int .i64 ms] 85) .free (fun _ => False)
      have sn1 := step_new wr T4 (.cells #[.int .i64 kind, .int .i64 1, .int .i64 n, .int .i64 ms] 85) .free (fun _ => False)
      have hO0 := blk_new wr T4 #[.int .i64 kind, .int .i64 0, .int .i64 n, .int .i64 ms] 85 .free
      have pa5 := pa.step hX sn0 (fun _ _ h => h)
      have pb5 := pb.step hX sn0 (fun _ _ h => h)
      have pa6 := pa.step hX sn1 (fun _ _ h => h)
      have pb6 := pb.step hX sn1 (fun _ _ h => h)
      have pa7 := pa.step hX sn (fun _ _ h => h)
      have pb7 := pb.step hX sn (fun _ _ h => h)
      have hpk := fun w1 => pickk_same G 2 w1 hG.1 hG.2 (by decide) (by decide)
      have hp01 : pickQ G 2 = 0 ∨ pickQ G 2 = 1 := by have := pickQ_range G 2 (by decide); omega
      clear hb4 pa pb
      by_cases hkd1 : kind = 1
      · subst hkd1
        have hpa := pstep_any hX (by omega) (by omega) 0 ba ma La 1 0 n ms 0 ga _ _ pa5 hga hka (by decide) (by unfold i64; decide) hn hms
        go_wp2_with fail
        refine hpa.mono ?_
        clear hpa
        rintro e w6 ⟨rfl, T6, s6, pa6⟩
        have hO6 := hO0.step s6 (fun h => ut_free 0 _ h rfl)
        have hpb := pstep_any hX (by omega) (by omega) 1 bb mb Lb 1 0 n ms 0 ga w6 T6 (pb5.step hX s6 (ut_ne (by decide))) hgb hkb (by decide) (by unfold i64; decide) hn hms
        have r0 := hO6.cell (j := 0) rfl
        have r1 := hO6.cell (j := 1) rfl
        have r2 := hO6.cell (j := 2) rfl
        have r3 := hO6.cell (j := 3) rfl
        simp only [List.getElem_toArray, List.getElem_cons_succ, List.getElem_cons_zero] at r0 r1 r2 r3
        go_wp2_with fail
        refine hpb.mono ?_
        clear hpb
        rintro e w7 ⟨rfl, T7, s7, pb7⟩
        have fin : Both X (60000 * ((j + 1 : Nat) : Int)) w7 T7 ba bb := ⟨_, _, _, _, (pa6.step hX s7 (ut_ne (by decide))).mono (by omega), pb7.mono (by omega), twin_both tw hga 1 n ms⟩
        have f7 := ((f4.trans (sn0.mono (fun _ h => h.elim))).trans (s6.mono (fun _ h => ut_old h))).trans (s7.mono (fun _ h => ut_old h))
        clear pa6 pb7 s6 s7 hO6
        go_wp2
        exact ⟨⟨j + 1, T7, by omega, by simp, f7, fin⟩, by simp [intOf]; omega⟩
      by_cases hkd6 : kind = 6
      · subst hkd6
        have hpa := pstep_any hX (by omega) (by omega) 0 ba ma La 6 0 n ms 0 ga _ _ pa5 hga hka (by decide) (by unfold i64; decide) hn hms
        go_wp2_with fail
        refine hpa.mono ?_
        clear hpa
        rintro e w6 ⟨rfl, T6, s6, pa6⟩
        have hO6 := hO0.step s6 (fun h => ut_free 0 _ h rfl)
        have hpb := pstep_any hX (by omega) (by omega) 1 bb mb Lb 6 0 n ms 0 ga w6 T6 (pb5.step hX s6 (ut_ne (by decide))) hgb hkb (by decide) (by unfold i64; decide) hn hms
        have r0 := hO6.cell (j := 0) rfl
        have r1 := hO6.cell (j := 1) rfl
        have r2 := hO6.cell (j := 2) rfl
        have r3 := hO6.cell (j := 3) rfl
        simp only [List.getElem_toArray, List.getElem_cons_succ, List.getElem_cons_zero] at r0 r1 r2 r3
        go_wp2_with fail
        refine hpb.mono ?_
        clear hpb
        rintro e w7 ⟨rfl, T7, s7, pb7⟩
        have fin : Both X (60000 * ((j + 1 : Nat) : Int)) w7 T7 ba bb := ⟨_, _, _, _, (pa6.step hX s7 (ut_ne (by decide))).mono (by omega), pb7.mono (by omega), twin_both tw hga 6 n ms⟩
        have f7 := ((f4.trans (sn0.mono (fun _ h => h.elim))).trans (s6.mono (fun _ h => ut_old h))).trans (s7.mono (fun _ h => ut_old h))
        clear pa6 pb7 s6 s7 hO6
        go_wp2
        exact ⟨⟨j + 1, T7, by omega, by simp, f7, fin⟩, by simp [intOf]; omega⟩
      by_cases hkd3 : kind = 3
      · subst hkd3
        go_wp2_with fail
        refine (hpk _).mono ?_
        rintro e w5 ⟨rfl, rfl⟩
        rcases hp01 with h01 | h01
        · rw [h01]
          have hpa := pstep_any hX (by omega) (by omega) 0 ba ma La 3 0 n ms 0 ga _ _ pa5 hga hka (by decide) (by unfold i64; decide) hn hms
          go_wp2_with fail
          refine hpa.mono ?_
          clear hpa
          rintro e w6 ⟨rfl, T6, s6, pa6⟩
          have hO6 := hO0.step s6 (fun h => ut_free 0 _ h rfl)
          have hpb := pstep_any hX (by omega) (by omega) 1 bb mb Lb 3 0 n ms 0 ga w6 T6 (pb5.step hX s6 (ut_ne (by decide))) hgb hkb (by decide) (by unfold i64; decide) hn hms
          have r0 := hO6.cell (j := 0) rfl
          have r1 := hO6.cell (j := 1) rfl
          have r2 := hO6.cell (j := 2) rfl
          have r3 := hO6.cell (j := 3) rfl
          simp only [List.getElem_toArray, List.getElem_cons_succ, List.getElem_cons_zero] at r0 r1 r2 r3
          go_wp2_with fail
          refine hpb.mono ?_
          clear hpb
          rintro e w7 ⟨rfl, T7, s7, pb7⟩
          have fin : Both X (60000 * ((j + 1 : Nat) : Int)) w7 T7 ba bb := ⟨_, _, _, _, (pa6.step hX s7 (ut_ne (by decide))).mono (by omega), pb7.mono (by omega), twin_both tw hga 3 n ms⟩
          have f7 := ((f4.trans (sn0.mono (fun _ h => h.elim))).trans (s6.mono (fun _ h => ut_old h))).trans (s7.mono (fun _ h => ut_old h))
          clear pa6 pb7 s6 s7 hO6
          go_wp2
          exact ⟨⟨j + 1, T7, by omega, by simp, f7, fin⟩, by simp [intOf]; omega⟩
        · rw [h01]
          have hpb := pstep_any hX (by omega) (by omega) 1 bb mb Lb 3 1 n ms 1 g1 _ _ pb6 hg1 hk1 (by decide) (by unfold i64; decide) hn hms
          go_wp2_with fail
          refine hpb.mono ?_
          clear hpb
          rintro e w7 ⟨rfl, T7, s7, pb7⟩
          have fin : Both X (60000 * ((j + 1 : Nat) : Int)) w7 T7 ba bb := ⟨_, _, _, _, (pa6.step hX s7 (ut_ne (by decide))).mono (by omega), pb7.mono (by omega), twin_other tw 3 n ms (by decide)⟩
          have f7 := (f4.trans (sn1.mono (fun _ h => h.elim))).trans (s7.mono (fun _ h => ut_old h))
          clear pb7 s7
          go_wp2
          exact ⟨⟨j + 1, T7, by omega, by simp, f7, fin⟩, by simp [intOf]; omega⟩
      by_cases hkd4 : kind = 4
      · subst hkd4
        go_wp2_with fail
        refine (hpk _).mono ?_
        rintro e w5 ⟨rfl, rfl⟩
        rcases hp01 with h01 | h01
        · rw [h01]
          have hpa := pstep_any hX (by omega) (by omega) 0 ba ma La 4 0 n ms 0 ga _ _ pa5 hga hka (by decide) (by unfold i64; decide) hn hms
          go_wp2_with fail
          refine hpa.mono ?_
          clear hpa
          rintro e w6 ⟨rfl, T6, s6, pa6⟩
          have hO6 := hO0.step s6 (fun h => ut_free 0 _ h rfl)
          have hpb := pstep_any hX (by omega) (by omega) 1 bb mb Lb 4 0 n ms 0 ga w6 T6 (pb5.step hX s6 (ut_ne (by decide))) hgb hkb (by decide) (by unfold i64; decide) hn hms
          have r0 := hO6.cell (j := 0) rfl
          have r1 := hO6.cell (j := 1) rfl
          have r2 := hO6.cell (j := 2) rfl
          have r3 := hO6.cell (j := 3) rfl
          simp only [List.getElem_toArray, List.getElem_cons_succ, List.getElem_cons_zero] at r0 r1 r2 r3
          go_wp2_with fail
          refine hpb.mono ?_
          clear hpb
          rintro e w7 ⟨rfl, T7, s7, pb7⟩
          have fin : Both X (60000 * ((j + 1 : Nat) : Int)) w7 T7 ba bb := ⟨_, _, _, _, (pa6.step hX s7 (ut_ne (by decide))).mono (by omega), pb7.mono (by omega), twin_both tw hga 4 n ms⟩
          have f7 := ((f4.trans (sn0.mono (fun _ h => h.elim))).trans (s6.mono (fun _ h => ut_old h))).trans (s7.mono (fun _ h => ut_old h))
          clear pa6 pb7 s6 s7 hO6
          go_wp2
          exact ⟨⟨j + 1, T7, by omega, by simp, f7, fin⟩, by simp [intOf]; omega⟩
        · rw [h01]
          have hpb := pstep_any hX (by omega) (by omega) 1 bb mb Lb 4 1 n ms 1 g1 _ _ pb6 hg1 hk1 (by decide) (by unfold i64; decide) hn hms
          go_wp2_with fail
          refine hpb.mono ?_
          clear hpb
          rintro e w7 ⟨rfl, T7, s7, pb7⟩
          have fin : Both X (60000 * ((j + 1 : Nat) : Int)) w7 T7 ba bb := ⟨_, _, _, _, (pa6.step hX s7 (ut_ne (by decide))).mono (by omega), pb7.mono (by omega), twin_other tw 4 n ms (by decide)⟩
          have f7 := (f4.trans (sn1.mono (fun _ h => h.elim))).trans (s7.mono (fun _ h => ut_old h))
          clear pb7 s7
          go_wp2
          exact ⟨⟨j + 1, T7, by omega, by simp, f7, fin⟩, by simp [intOf]; omega⟩
      by_cases hkd5 : kind = 5
      · subst hkd5
        go_wp2_with fail
        refine (hpk _).mono ?_
        rintro e w5 ⟨rfl, rfl⟩
        rcases hp01 with h01 | h01
        · rw [h01]
          have hpa := pstep_any hX (by omega) (by omega) 0 ba ma La 5 0 n ms 0 ga _ _ pa5 hga hka (by decide) (by unfold i64; decide) hn hms
          go_wp2_with fail
          refine hpa.mono ?_
          clear hpa
          rintro e w6 ⟨rfl, T6, s6, pa6⟩
          have hO6 := hO0.step s6 (fun h => ut_free 0 _ h rfl)
          have hpb := pstep_any hX (by omega) (by omega) 1 bb mb Lb 5 0 n ms 0 ga w6 T6 (pb5.step hX s6 (ut_ne (by decide))) hgb hkb (by decide) (by unfold i64; decide) hn hms
          have r0 := hO6.cell (j := 0) rfl
          have r1 := hO6.cell (j := 1) rfl
          have r2 := hO6.cell (j := 2) rfl
          have r3 := hO6.cell (j := 3) rfl
          simp only [List.getElem_toArray, List.getElem_cons_succ, List.getElem_cons_zero] at r0 r1 r2 r3
          go_wp2_with fail
          refine hpb.mono ?_
          clear hpb
          rintro e w7 ⟨rfl, T7, s7, pb7⟩
          have fin : Both X (60000 * ((j + 1 : Nat) : Int)) w7 T7 ba bb := ⟨_, _, _, _, (pa6.step hX s7 (ut_ne (by decide))).mono (by omega), pb7.mono (by omega), twin_both tw hga 5 n ms⟩
          have f7 := ((f4.trans (sn0.mono (fun _ h => h.elim))).trans (s6.mono (fun _ h => ut_old h))).trans (s7.mono (fun _ h => ut_old h))
          clear pa6 pb7 s6 s7 hO6
          go_wp2
          exact ⟨⟨j + 1, T7, by omega, by simp, f7, fin⟩, by simp [intOf]; omega⟩
        · rw [h01]
          have hpb := pstep_any hX (by omega) (by omega) 1 bb mb Lb 5 1 n ms 1 g1 _ _ pb6 hg1 hk1 (by decide) (by unfold i64; decide) hn hms
          go_wp2_with fail
          refine hpb.mono ?_
          clear hpb
          rintro e w7 ⟨rfl, T7, s7, pb7⟩
          have fin : Both X (60000 * ((j + 1 : Nat) : Int)) w7 T7 ba bb := ⟨_, _, _, _, (pa6.step hX s7 (ut_ne (by decide))).mono (by omega), pb7.mono (by omega), twin_other tw 5 n ms (by decide)⟩
          have f7 := (f4.trans (sn1.mono (fun _ h => h.elim))).trans (s7.mono (fun _ h => ut_old h))
          clear pb7 s7
          go_wp2
          exact ⟨⟨j + 1, T7, by omega, by simp, f7, fin⟩, by simp [intOf]; omega⟩
      have fin : Both X (60000 * ((j + 1 : Nat) : Int)) (wr.alloc (.cells #[.int .i64 kind, .int .i64 G, .int .i64 n, .int .i64 ms] 85)) (retag T4 wr.heap.size .free) ba bb := ⟨ma, mb, La, Lb, pa7.mono (by omega), pb7.mono (by omega), tw⟩
      have f7 := f4.trans (sn.mono (fun _ h => (h.elim : _ ≠ Tag.old)))
      clear pa5 pb5 pa6 pb6 pa7 pb7 sn sn0 sn1 hO0
      have d1 : decide (kind = 1) = false := decide_eq_false hkd1
      have d3 : decide (kind = 3) = false := decide_eq_false hkd3
      have d4 : decide (kind = 4) = false := decide_eq_false hkd4
      have d5 : decide (kind = 5) = false := decide_eq_false hkd5
      have d6 : decide (kind = 6) = false := decide_eq_false hkd6
      have c1 : (kind == 1) = false := by simp [hkd1]
      have c3 : (kind == 3) = false := by simp [hkd3]
      have c4 : (kind == 4) = false := by simp [hkd4]
      have c5 : (kind == 5) = false := by simp [hkd5]
      have c6 : (kind == 6) = false := by simp [hkd6]
      have n1 : (kind != 1) = true := by simp [hkd1]
      have e1 : decide (¬ kind = 1) = true := by simp [hkd1]
      have g1' : decide (kind ≠ 1) = true := by simp [hkd1]
      have n3 : (kind != 3) = true := by simp [hkd3]
      have e3 : decide (¬ kind = 3) = true := by simp [hkd3]
      have g3' : decide (kind ≠ 3) = true := by simp [hkd3]
      have n4 : (kind != 4) = true := by simp [hkd4]
      have e4 : decide (¬ kind = 4) = true := by simp [hkd4]
      have g4' : decide (kind ≠ 4) = true := by simp [hkd4]
      have n5 : (kind != 5) = true := by simp [hkd5]
      have e5 : decide (¬ kind = 5) = true := by simp [hkd5]
      have g5' : decide (kind ≠ 5) = true := by simp [hkd5]
      have n6 : (kind != 6) = true := by simp [hkd6]
      have e6 : decide (¬ kind = 6) = true := by simp [hkd6]
      have g6' : decide (kind ≠ 6) = true := by simp [hkd6]
      go_wp2
      exact ⟨⟨j + 1, _, by omega, by simp, f7, fin⟩, by simp [intOf]; omega⟩
    · obtain ⟨ma, mb, La, Lb, pa, pb, tw⟩ := hb4.ex
      obtain ⟨bxa, gba, gca, hxa, hra, hfa, hna, hpa⟩ := pa
      obtain ⟨bxb, gbb, gcb, hxb, hrb, hfb, hnb, hpb⟩ := pb
      obtain ⟨ga, hga⟩ : ∃ g, ma.groups[0]? = some g := ⟨_, List.getElem?_eq_getElem hpa⟩
      have hgb : mb.groups[0]? = some ga := by rw [tw.g]; exact hga
      have hata := at_name hna.named hra.few hga
      have hatb := at_name hnb.named hrb.few hgb
      have hDEa : doneE ma (nameB 0) = 0 := by simp [doneE, hata]
      have hDEb : doneE mb (nameB 0) = 0 := by simp [doneE, hatb]
      obtain ⟨DL, hDL⟩ : ∃ D, Hid (doneL ma (nameB 0) = D ∧ doneL mb (nameB 0) = D ∧ D = doneTo ga.items ga.items.length) := ⟨_, hide ⟨rfl, by simp [doneL, hata, hatb, hga, hgb], by simp [doneL, hata, hga]⟩⟩
      have hlenA := hfa.ok.len ga (List.mem_of_getElem? hga)
      have hsmA := hra.small
      have lDL : DL.length ≤ 400 := by rw [hDL.out.2.2]; exact Nat.le_trans (doneTo_len _ _) (by omega)
      have hG := hna.grp 0 ga hga
      have hL4 : (La 0).length ≤ 4000 := by rw [hG.sum]; exact hG.items.sum (good_all hfa.ok.good).2.1.2 (by omega)
      have hBm : (60000 : Int) * j ≤ 3000000000000000000 := by omega
      have hcA : ∀ W, Below wr.heap.size wr W → Calls Tryz.prog 28 #[.pointer (some ⟨bxa, 0, none⟩), .string (nameB 0)] W fun e w' => ∃ ao cap, e = .returned (.tuple #[.slice ao DL.length cap, .int .i64 0]) ∧ ∃ T', Step (XT 0) W T4 w' T' ∧ X w' T' 0 bxa ma ∧ Row w' T' .pa 69 2 (.slice ao DL.length cap) DL.length (pairVals DL) := fun W hW => by
        have := hX.done 0 bxa ma (nameB 0) .pa W T4 (hX.step hxa (step_below (fun _ => False) T4 hW) (fun _ _ h => h)) (hfa.mono hBm)
        rw [hDEa, hDL.out.1] at this
        exact this
      obtain ⟨boa, bca, soa, sca, loa, lca, A⟩ := hra.at hga
      obtain ⟨bob, bcb, sob, scb, lob, lcb, Bx⟩ := hrb.at hgb
      have c0 := A.c0
      have lba := A.lb
      have hnm := fun w1 => name_exact 0 (by decide) w1
      clear hl hs hb4
      go_wp2_with fail
      go_region_held3 (fun w' => w'.cell? ⟨ba, 0, none⟩ = some (.pointer (some ⟨bxa, 0, none⟩))) (go_keep) (first | (go_at_call 35; refine (hnm _).mono ?_; rintro e w5 ⟨rfl, rfl⟩) | (go_at_call 28; refine (hcA _ ((Below.refl _ _).alloc (Nat.le_refl _) _).drew).mono ?_; rintro e w6 ⟨ao6, cap6, rfl, T6, s6, hx6, hR6⟩; have k0 := ((A.step (step_below (fun _ => False) T4 ((Below.refl wr.heap.size wr).alloc (Nat.le_refl _) (.cells #[.int .u8 (97 + ((0 : Nat) : Int))] 5)).drew) (fun _ _ h => h)).step s6 (fun _ a c => xt_rt a c)).c0))
      have s46 : Step (XT 0) wr T4 w6 T6 := (step_below (XT 0) T4 ((Below.refl _ _).alloc (Nat.le_refl _) _).drew).trans s6
      have A6 := A.step s46 (fun _ a c => xt_rt a c)
      have B6 := Bx.step s46 (fun _ a c => xt_rt a c)
      have hxb6 := hX.step hxb s46 (by rintro t ⟨_, h1⟩ ⟨_, h2⟩; omega)
      have f6 := f4.trans (s46.mono (fun _ h => ut_old (.inl h)))
      have hcB : ∀ W, Below w6.heap.size w6 W → Calls Tryz.prog 28 #[.pointer (some ⟨bxb, 0, none⟩), .string (nameB 0)] W fun e w' => ∃ ao cap, e = .returned (.tuple #[.slice ao DL.length cap, .int .i64 0]) ∧ ∃ T', Step (XT 1) W T6 w' T' ∧ X w' T' 1 bxb mb ∧ Row w' T' .pb 69 2 (.slice ao DL.length cap) DL.length (pairVals DL) := fun W hW => by
        have := hX.done 1 bxb mb (nameB 0) .pb W T6 (hX.step hxb6 (step_below (fun _ => False) T6 hW) (fun _ _ h => h)) (hfb.mono hBm)
        rw [hDEb, hDL.out.2.1] at this
        exact this
      have c0b := B6.c0
      have lbb := B6.lb
      clear A Bx k0 c0 lba s6 s46 hx6 hxa hxb hcA f4
      go_wp2_with fail
      go_region_held3 (fun w' => w'.cell? ⟨bb, 0, none⟩ = some (.pointer (some ⟨bxb, 0, none⟩))) (go_keep) (first | (go_at_call 35; refine (hnm _).mono ?_; rintro e w5 ⟨rfl, rfl⟩) | (go_at_call 28; refine (hcB _ ((Below.refl _ _).alloc (Nat.le_refl _) _).drew).mono ?_; rintro e w7 ⟨ao7, cap7, rfl, T7, s7, hx7, hR7⟩; have k0 := ((B6.step (step_below (fun _ => False) T6 ((Below.refl w6.heap.size w6).alloc (Nat.le_refl _) (.cells #[.int .u8 (97 + ((0 : Nat) : Int))] 5)).drew) (fun _ _ h => h)).step s7 (fun _ a c => xt_rt a c)).c0))
      have s67 : Step (XT 1) w6 T6 w7 T7 := (step_below (XT 1) T6 ((Below.refl _ _).alloc (Nat.le_refl _) _).drew).trans s7
      have A7 := A6.step s67 (fun _ a c => xt_rt a c)
      have B7 := B6.step s67 (fun _ a c => xt_rt a c)
      have hRa := hR6.step s67 (by simp [XT])
      have f7 := f6.trans (s67.mono (fun _ h => ut_old (.inl h)))
      rw [tw.last] at B7
      have a9 := A7.c9
      have a7 := A7.c7
      have a3 := A7.d3
      have b9 := B7.c9
      have b7 := B7.c7
      have b3 := B7.d3
      rw [tw.la] at a7
      rw [tw.lb] at b7
      rw [Nat.zero_mul, Nat.zero_add] at a3 b3
      have la7 := A7.lb
      have lga7 := A7.lg
      have lb7 := B7.lb
      have lgb7 := B7.lg
      have hLa := A7.last
      have hLb := B7.last
      clear A6 B6 k0 c0b lbb s7 s67 hx7 hxb6 hcB f6 hR6 A7 B7 hnm
      generalize La 0 = l0 at *
      go_wp2_with fail
      refine wp_region_over (by kernel_rfl) (by kernel_rfl) ?_
      repeat (go_big_quiet_step (fail))
      refine wpQuiet_nil ?_
      rintro _ ⟨x8, rfl⟩
      have hb8 := over_below w7 x8
      generalize over w7 x8 = w8 at *
      go_wp2_with fail
      go_loopw [14] (fun v wx => ∃ q : Nat, q ≤ DL.length ∧ v = .int .i64 q ∧ Below w7.heap.size w7 wx) (fun v _ => DL.length - (intOf v).toNat)
      case atStart => exact ⟨0, Nat.zero_le _, rfl, hb8⟩
      case round =>
        obtain ⟨q, hq, rfl, hb9⟩ := hrel
        by_cases hql : q < DL.length
        · obtain ⟨r, hrq⟩ : ∃ r, DL[q]? = some r := ⟨_, List.getElem?_eq_getElem hql⟩
          obtain ⟨pa6, _, e⟩ := row_some hRa (by omega)
          cases e
          obtain ⟨pb6, _, e⟩ := row_some hR7 (by omega)
          cases e
          obtain ⟨t0, t1⟩ := pairVals_at DL q r hrq
          have l1 := hRa.lt
          have l2 := hR7.lt
          have x0 := (hb9.cell (p := ⟨pa6, q * 2, none⟩) l1).trans (hRa.cell t0)
          have x1 := (hb9.cell (p := ⟨pa6, q * 2 + 1, none⟩) l1).trans (hRa.cell t1)
          have y0 := (hb9.cell (p := ⟨pb6, q * 2, none⟩) l2).trans (hR7.cell t0)
          have y1 := (hb9.cell (p := ⟨pb6, q * 2 + 1, none⟩) l2).trans (hR7.cell t1)
          have m1 := Nat.lt_of_lt_of_le l1 hb9.size
          have m2 := Nat.lt_of_lt_of_le l2 hb9.size
          clear t0 t1 hRa hR7 hLa hLb a9 a7 a3 b9 b7 b3 hDL
          go_wp2_with fail
          refine wp_region_over (by kernel_rfl) (by kernel_rfl) ?_
          repeat (go_big_quiet_step (fail))
          refine wpQuiet_nil ?_
          rintro _ ⟨x9, rfl⟩
          have hov := hb9.trans ((over_below wr x9).mono hb9.size)
          generalize over wr x9 = w9 at *
          go_wp2
          exact ⟨⟨q + 1, by omega, by simp, hov⟩, by simp [intOf]; omega⟩
        · clear hRa hR7
          go_wp2_with fail
          go_loopw [15] (fun v wx => ∃ q : Nat, q ≤ l0.length ∧ v = .int .i64 q ∧ Below w7.heap.size w7 wx) (fun v _ => l0.length - (intOf v).toNat)
          case atStart => exact ⟨0, Nat.zero_le _, rfl, hb9⟩
          case round =>
            obtain ⟨p, hp, rfl, hb10⟩ := hrel
            replace a7 := (hb10.cell (p := ⟨ba, 7, none⟩) la7).trans a7
            replace a3 := (hb10.cell (p := ⟨gba, 3, none⟩) lga7).trans a3
            replace b7 := (hb10.cell (p := ⟨bb, 7, none⟩) lb7).trans b7
            replace b3 := (hb10.cell (p := ⟨gbb, 3, none⟩) lgb7).trans b3
            replace la7 := Nat.lt_of_lt_of_le la7 hb10.size
            replace lga7 := Nat.lt_of_lt_of_le lga7 hb10.size
            replace lb7 := Nat.lt_of_lt_of_le lb7 hb10.size
            replace lgb7 := Nat.lt_of_lt_of_le lgb7 hb10.size
            by_cases hpl : p < l0.length
            · obtain ⟨z, hz⟩ : ∃ z, l0[p]? = some z := ⟨_, List.getElem?_eq_getElem hpl⟩
              obtain ⟨pa6, _, e⟩ := row_some hLa (by omega)
              cases e
              obtain ⟨pb6, _, e⟩ := row_some hLb (by omega)
              cases e
              have l1 := hLa.lt
              have l2 := hLb.lt
              have x0 : wr.cell? ⟨pa6, p, none⟩ = some (.int .i64 z) := (hb10.cell (p := ⟨pa6, p, none⟩) l1).trans (hLa.cell (by simp [hz, natV]))
              have y0 : wr.cell? ⟨pb6, p, none⟩ = some (.int .i64 z) := (hb10.cell (p := ⟨pb6, p, none⟩) l2).trans (hLb.cell (by simp [hz, natV]))
              have m1 := Nat.lt_of_lt_of_le l1 hb10.size
              have m2 := Nat.lt_of_lt_of_le l2 hb10.size
              clear hLa hLb hDL
              go_wp2_with fail
              refine wp_region_over (by kernel_rfl) (by kernel_rfl) ?_
              repeat (go_big_quiet_step (fail))
              refine wpQuiet_nil ?_
              rintro _ ⟨x9, rfl⟩
              have hov := hb10.trans ((over_below wr x9).mono hb10.size)
              generalize over wr x9 = w9 at *
              go_wp2
              exact ⟨⟨p + 1, by omega, by simp, hov⟩, by simp [intOf]; omega⟩
            · have f10 := f7.trans (step_below (fun t => t ≠ .old) T7 hb10)
              clear hLa hLb hDL
              go_wp2
              go_ret
              exact ⟨rfl, f10.os, f10.tape, f10.output, f10.size, fun k hk => f10.block k hk (by simp)⟩

end Go.Proofs.YtockkceclkcgbaaGreatDoor

/- Apart is true whatever the numbers and the script, and leaves them as they were: the given statement ApartSaid, with no condition. -/
namespace Go.Proofs.YtockkceclkcgbaaGreatDoor
open Go.ChangeShapes Go.WideShapes Go.ChangeAt Go.RowKit

set_option maxRecDepth 100000 in
theorem apart_contract (H : Type) (enc : TypeId × Value → H) (W : World) (base : Nat) (args : Array Value) (ds gs : List (DataW H)) (before : List MemPlace)
    (hval : ∀ (j : Nat) t v, Tryz.f10.params[j]? = some t → args[j]? = some v → Value.okWide Tryz.prog W .any base t v)
    (hW : DataW.Whole enc Tryz.prog Tryz.f10.params.toList Rows.apartSpec.vars false W args.toList ds gs before)
    (hsz : (DataW.weightsEach Tryz.prog (Tryz.f10.params.toList ++ Rows.apartSpec.plain.varTypes Tryz.prog) (ds ++ gs)).all (· ≤ reachBytes) = true) :
    Calls Tryz.prog 10 args W fun e W' => ∃ v, e = .returned v ∧ Rows.apartSpec.post enc Tryz.prog Tryz.f10 false true false false W args v W' := by
  have hW' := hW
  obtain ⟨p, q, hA0, hV, rfl, _, _⟩ := hW
  have hA : DataW.TrodAll enc Tryz.prog W 0 (fun _ => true) true Tryz.f10.params.toList args.toList ds p := hA0
  rw [Tryz.params10] at hA hval hsz
  obtain ⟨v0, v1, d0, d1, p0, p1, rfl, rfl, rfl, h0, h1⟩ := trodAll_two hA
  obtain ⟨rfl, rfl⟩ := trodVars_none hV
  obtain ⟨a0, n0, c0, rfl⟩ := okWide_slice Tryz.underlying50 (hval 0 50 v0 rfl rfl)
  obtain ⟨a1, n1, c1, rfl⟩ := okWide_slice Tryz.underlying51 (hval 1 51 v1 rfl rfl)
  have h0k := h0
  have h1k := h1
  obtain ⟨f0, hf0⟩ := h0
  obtain ⟨f1, hf1⟩ := h1
  clear hA0
  simp only [List.append_nil] at hW' hsz
  have hlt : ∀ x ∈ p0 ++ p1, x.block < W.heap.size := fun x hx => by simpa using hW'.lt x hx
  have hlt0 : ∀ x ∈ p0, x.block < W.heap.size := fun x hx => hlt x (by simp [hx])
  have hlt1 : ∀ x ∈ p1, x.block < W.heap.size := fun x hx => hlt x (by simp [hx])
  obtain ⟨l, rfl, hL, hdl⟩ := open_raws rfl hf0
  obtain ⟨s, rfl, hS, hds⟩ := open_steps rfl hf1
  have hlenL : l.length ≤ 9223372036854775807 := by
    rcases hdl with h | ⟨xs, ys, rfl, hx⟩
    · omega
    · have := sized_slice hsz (j := 0) (t := 50) (e := 3) rfl rfl Tryz.underlying50
      rw [Tryz.bytes3, hx] at this
      have h47 := reachBytes_lt
      omega
  have hlenS : s.length ≤ 4398046511104 := by
    rcases hds with h | ⟨xs, ys, rfl, hx⟩
    · omega
    · have := sized_slice hsz (j := 1) (t := 51) (e := 85) rfl rfl Tryz.underlying51
      rw [Tryz.bytes85, hx] at this
      have h47 := reachBytes_lt
      omega
  refine (kapart_any l s a0 a1 c0 c1 W hL hS hlenL hlenS).mono fun e W' ⟨he, hg⟩ => ?_
  subst he
  refine ⟨_, rfl, _, _, _, [], p0 ++ p1, [], hW', ?_, ?_, rfl, hg.frame _, fun h => by cases h⟩
  · exact trodAll_mk1 (shut_bool Tryz.underlying4 _)
  · exact trodAll_mk2 (Below.trod Tryz.laidOut (by kernel_rfl) (of_decide_eq_true (by kernel_rfl)) h0k hg hlt0) (Below.trod Tryz.laidOut (by kernel_rfl) (of_decide_eq_true (by kernel_rfl)) h1k hg hlt1)

set_option maxRecDepth 100000 in
theorem apart_lifted (os : Os) (started : os.Started) (H : Type) (enc : TypeId × Value → H) :
    ReturnsInHanded {} Tryz.checked os 10 .any (fun w args => (Rows.apartSpec.pre enc Tryz.prog Tryz.f10 [] false w args ∧ laidMetH Tryz.prog laidL w) ∧ sizedMet enc Tryz.prog Tryz.f10 (OpenSpec.ofChange Rows.apartSpec) false w args)
      (Rows.apartSpec.post enc Tryz.prog Tryz.f10 false true false false) := by
  refine returnsInHanded_of_change_and (C := Tryz.checked) (X := fun w _ => laidMetH Tryz.prog laidL w) (fun _ _ _ hh h => h.of_heap hh) Tryz.own started (by kernel_rfl) Tryz.func10
    (ChangeSpec.witness_at (enc := enc) (C := Tryz.checked) (os := os) (X := fun w _ => laidMetH Tryz.prog laidL w) false (laidWorld os) #[.slice none 0 0, .slice none 0 0] 8 rfl (by kernel_rfl) (by kernel_rfl) (by kernel_rfl) (by kernel_rfl) (by kernel_rfl) (laid_metH os _)) ?_
  intro W base args ds gs before hval hW _ hsz _ _
  exact apart_contract H enc W base args ds gs before hval hW hsz

theorem apart_row : Rows.ApartSaid :=
  OpenClaim.holds_of_wide 10 Tryz.f10 rfl rfl rfl rfl rfl rfl rfl ⟨rfl, rfl, rfl, rfl, rfl⟩ rfl rfl rfl rfl rfl (by kernel_rfl) Tryz.func10 (by kernel_rfl)
    (of_decide_eq_true (by kernel_rfl)) (by unfold Func.isWrapper; first | (rw [if_pos (by decide +kernel)]; kernel_rfl) | (rw [if_neg (by decide +kernel)]; exact ⟨rfl, rfl⟩))
    (fun os started H enc _ => apart_lifted os started H enc)

theorem apart_holds : Rows.ApartCardSaid :=
  Claim7.holds_tied_plain_at .later [] [.sentinel, .sentinel] true Rows.apartCard.stood.harness true
    apart_row (fun _ h => by cases h) (by kernel_rfl) (fun _ h => by cases h) apart_row_tie rfl ⟨rfl, rfl⟩ (by kernel_rfl) rfl
    (fun f fn hf hfn => by
      obtain rfl : f = 10 := Option.some.inj ((show Tryz.prog.funcNamed "quay/quaykeep.Apart" = some 10 by kernel_rfl).symm.trans hf) |>.symm
      obtain rfl : fn = Tryz.f10 := (Option.some.inj (Tryz.func10.symm.trans hfn)).symm
      exact ⟨by kernel_rfl, fun j t ht => by
        rw [Tryz.params10] at ht
        rcases j with _ | _ | j
        · obtain rfl : t = 50 := by simpa using ht.symm
          kernel_rfl
        · obtain rfl : t = 51 := by simpa using ht.symm
          kernel_rfl
        · simp at ht⟩)
    (by kernel_rfl)

#print axioms apart_holds

end Go.Proofs.YtockkceclkcgbaaGreatDoor

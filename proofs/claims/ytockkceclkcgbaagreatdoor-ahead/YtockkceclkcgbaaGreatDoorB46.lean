/- Ahead, walked: it returns true and changes nothing that was there. -/
import Derived.Test.YtockkceclkcgbaaGreatDoorB20
import Derived.Test.YtockkceclkcgbaaGreatDoorB45
import Derived.Test.YtockkceclkcgbaaGreatDoorTie
import Derived.Test.YtockkceclkcgbaaGreatDoorCards
import Derived.Handed
import Derived.LaidLaws
import Derived.LaidHandle
import Derived.Stop.LaidTwo
import Derived.RowKit
import Derived.Test.YtockkceclkcgbaaGreatDoorB19
import Derived.ProofKit
import Derived.Deep.Slices
import Derived.Lib.SmallJoins
import Derived.OpenShut
import Derived.SizedLaws
import Derived.Test.YtockkceclkcgbaaGreatDoorB25
import Derived.Stop.LaidErr
namespace Go.Proofs.YtockkceclkcgbaaGreatDoor
open Go.RowKit

theorem xt_ut {i j : Nat} (h : i ≠ j) (t : Tag) (h1 : XT i t) : ¬ UT j t := ut_ne h t (.inl h1)
/-- a queue that was opened of the log of another one: both tell the same -/
theorem al_open {w : World} {T : Nat → Tag} {b bb bx bx1 : Nat} {m : MQ} {vL vL1 : Value} {su ls : Nat} {lg : Bs} {co : Core} {K : Nat} {ga gb : Option Addr} {gca gcb : Nat} (hx : XM w T 0 bx m vL (.int .u32 su) lg) (hlog : LogIs m lg su) (hlsd : Lsd m) (hok : m.Ok) {c : Conf} (hmc : m.c = c) (hco : CO w T 1 bx1 c co vL1 ls lg) (hsame : Same co (coreM m)) (hlogw : LogIs (wakeM m 0) lg ls)
    (ca0 : w.cell? ⟨b, 0, none⟩ = some (.pointer (some ⟨bx, 0, none⟩))) (ca7 : w.cell? ⟨b, 7, none⟩ = some (.slice ga K gca)) (cb0 : w.cell? ⟨bb, 0, none⟩ = some (.pointer (some ⟨bx1, 0, none⟩))) (cb7 : w.cell? ⟨bb, 7, none⟩ = some (.slice gb K gcb)) (la : b < w.heap.size) (lb : bb < w.heap.size) (ta : (T b).c ≠ 5) (tb : (T bb).c ≠ 5) :
    ∃ σ, AL X w (moveT 1 1 σ T) 0 1 b bb bx bx1 m (wakeM m 0) K ga gca gb gcb ∧ ∀ k, (T k).c ≠ 5 → moveT 1 1 σ T k = T k := by
  have hcore := (wake_core (ch := 0) hx.rels hok hx.small).1
  have hcalm : Calm (wakeM m 0) := calm_wake hx hok
  obtain ⟨σ, hx1⟩ := co_x (i := 1) (q := wakeM m 0) hco hmc (by rw [hcore]; exact hsame) hcalm
  have hnot : ∀ k, (T k).c ≠ 5 → moveT 1 1 σ T k = T k := fun k hk => move_old (fun h => hk h.1)
  have hmv : ∀ g r k, T g = .q 0 r k → moveT 1 1 σ T g = .q 0 r k := fun g r k hg => by rw [move_old (by rw [hg]; simp [XT])]; exact hg
  refine ⟨σ, ⟨⟨vL, su, lg, hx.move hmv, hlog, hlsd⟩, ⟨vL1, ls, lg, hx1, hlogw, hcalm.lsd⟩, ca0, ca7, cb0, cb7, la, lb, ?_, ?_⟩, hnot⟩
  · rw [hnot b ta]; exact sx_tag ta
  · rw [hnot bb tb]; exact sx_tag tb

theorem told_len (m : MQ) (s : ByteArray) {B : Int} (hf : m.Fit B) (hsm : m.bodies.length ≤ 400) : (doneL m s).length ≤ 100000 ∧ (deadL m s).length ≤ 100000 := by
  unfold doneL deadL
  cases m.at s with
  | none => exact ⟨by simp, by simp⟩
  | some k =>
    simp only
    cases hg : m.groups[k]? with
    | none => exact ⟨by simp, by simp⟩
    | some g =>
      have hgm := List.mem_of_getElem? hg
      have h1 := hf.dead hsm g hgm
      have h2 := hf.ok.len g hgm
      have h3 := doneTo_len g.items g.items.length
      simp only [List.length_map]
      exact ⟨by omega, by omega⟩

attribute [local go_sem] over_cell

set_option maxRecDepth 100000 in
set_option maxHeartbeats 4000000 in
theorem kahead_any (a0 a1 : Addr) (l : List Int) (t : Bs) (s : List StV) (cp : Bool) (ao so : Option Addr) (cap scap : Nat) (w : World) (hl : ArgI w ao l) (hs : ArgS w so s) (hlen : l.length ≤ 9223372036854775807) (hsl : s.length ≤ 4398046511104) (ht : t.length ≤ 9223372036854775807) (hLd : Laid w (fun _ => .old) a0 a1) :
    Calls Tryz.prog 12 #[.slice ao l.length cap, .string (mkB t), .slice so s.length scap, .bool cp] w fun e w' => e = .returned (.bool true) ∧ Below w.heap.size w w' := by
  have hX := xc 3000000000000000000 (by decide)
  have hD := xd a0 a1 3000000000000000000 (by decide)
  have hgood := madeC_good l
  have hmd := made_any l ao cap w hl hlen
  go_enter Tryz.func12, Tryz.ntmps12
  go_wp2_with fail
  refine hmd.mono ?_
  clear hmd
  rintro e w1 ⟨rfl, hb1⟩
  obtain ⟨c, hc⟩ : ∃ c, madeC l = c := ⟨_, rfl⟩
  rw [hc] at hgood ⊢
  have g1 := step_below (fun t => t ≠ Tag.old) (fun _ => Tag.old) hb1
  have sn1 := step_new w1 (fun _ => Tag.old) (.cells c.cells 23) .free (fun _ => False)
  have hO1 := blk_new w1 (fun _ => Tag.old) c.cells 23 .free
  have f2 : Step (fun t => t ≠ Tag.old) w (fun _ => Tag.old) _ _ := g1.trans (sn1.mono (fun _ h => (h.elim : _ ≠ Tag.old)))
  have hopn := xopenA_any a0 a1 c t 1 _ _ hgood ((hLd.step g1 (fun h => h rfl)).step sn1 (fun h => h)) ht
  unfold Conf.cells at hopn hO1 f2 sn1
  have o0 := hO1.cell (j := 0) (v := .int .i64 c.l) rfl
  have o1 := hO1.cell (j := 1) (v := .int .i64 c.d) rfl
  have o2 := hO1.cell (j := 2) (v := .int .i64 c.s) rfl
  have o3 := hO1.cell (j := 3) (v := .int .i64 c.k) rfl
  have lo := hO1.lt
  unfold Conf.cells
  go_wp2_with fail
  refine hopn.mono ?_
  clear hopn o0 o1 o2 o3 lo sn1 g1
  generalize retag (fun _ => Tag.old) w1.heap.size .free = T1 at *
  generalize w1.alloc (.cells #[.int .i64 c.l, .int .i64 c.d, .int .i64 c.s, .int .i64 c.k] 23) = w2 at *
  generalize w1.heap.size = cb at hO1 ⊢
  rintro e w3 ⟨T3, s3, hA⟩
  have f3 := f2.trans (s3.mono (fun t h => (by rintro rfl; simp [XT] at h : t ≠ Tag.old)))
  have hO3 := hO1.step s3 (by simp [XT])
  have hLd3 := hLd.step f3 (fun h => h rfl)
  have hb3 : Below w.heap.size w w3 := ⟨f3.os, f3.tape, f3.output, f3.size, fun k hk => f3.block k hk (fun h => h rfl)⟩
  have hs3 : ArgS w3 so s := fun k o ho => by
    obtain ⟨h1, h2, h3, b, off, e1, e2, e3⟩ := hs k o ho
    exact ⟨h1, h2, h3, b, off, e1, Nat.lt_of_lt_of_le e2 hb3.size, fun j v hv => (hb3.cell (p := ⟨b, off + k * 4 + j, none⟩) e2).trans (e3 j v hv)⟩
  have hpl := played_any hD 0 l s ao so cap scap w3 T3 (hl.below hb3) hs3 (fun k o ho a ha => by
    obtain ⟨_, _, _, b, off, e1, e2, _⟩ := hs k o ho
    rw [ha] at e1
    cases e1
    exact (f3.tag b e2)) hlen hsl hLd3
  rw [hc] at hpl
  clear hLd hLd3 hl hs hs3 hb1 hb3
  -- the run that is played then
  have rest : ∀ (hco : Hid (∀ co ls lg, openT c t = some (co, ls, lg) → ∃ bx1 vL1, CO w3 T3 1 bx1 c co vL1 ls lg)), True := fun _ => trivial
  clear rest
  cases ho : openT c t with
  | none =>
    rw [ho] at hA
    obtain rfl := hA
    go_wp2_with fail
    refine hpl.mono ?_
    clear hpl
    rintro e w4 ⟨b, rfl, T4, m, L, s4, ⟨bx, gb, gc, hx, hr, hf, hq, hp⟩, hsg, htl, hmc⟩
    obtain ⟨vL, su, lg, hxm, hlog, hlsd⟩ := hx
    obtain ⟨g0, hg0⟩ : ∃ g, m.groups[0]? = some g := ⟨_, List.getElem?_eq_getElem hp⟩
    obtain ⟨bo, bc, so4, sc4, lo4, lc4, A⟩ := hr.at hg0
    have c0 := A.c0
    have c7 := A.c7
    have lb := A.lb
    have hok := hf.ok
    have hfew := hr.few
    have hcok := hlog.ok
    have f4 := f3.trans (s4.mono (fun _ h => ut_old h))
    have hO4 := hO3.step s4 (fun h => ut_free 0 _ h rfl)
    clear hlsd
    cases cp
    · have hlg := xlog_any 0 bx m w4 T4 hxm
      clear hr hq hsg htl hX hD
      go_wp2_with fail
      refine hlg.mono ?_
      clear hlg
      rintro e w5 ⟨rfl, rfl⟩
      have hne : ((lg : Bs)) ≠ t := fun e => by
        obtain ⟨q0, hT0, _⟩ := hlog.told
        have h1 := hT0.whole
        rw [e, hmc, ho] at h1
        cases h1
      have hq1 : ((mkB lg).toList == (mkB t).toList) = false := by
        rw [strEq]
        exact decide_eq_false (fun e => hne (by rw [← mkB_list lg, ← mkB_list t, e]))
      have hbf : Below w.heap.size w w5 := ⟨f4.os, f4.tape, f4.output, f4.size, fun k hk => f4.block k hk (fun h => h rfl)⟩
      go_wp2
      go_ret
      exact ⟨rfl, hbf⟩
    · have hcm := xcompact_any 0 bx m vL _ lg w4 T4 hxm hok hcok
      clear hr hq hsg htl hX hD
      go_wp2_with fail
      refine hcm.mono ?_
      clear hcm
      rintro e w5 ⟨rfl, T5, vL5, s5, hxm5⟩
      have hlog5 := log_compact hcok
      have A5 := A.step s5 (fun _ a c => xt_rt a c)
      have c05 := A5.c0
      have c75 := A5.c7
      have lb5 := A5.lb
      have f5 := f4.trans (s5.mono (fun t h => (by rintro rfl; simp [XT] at h : t ≠ Tag.old)))
      have hO5 := hO4.step s5 (by simp [XT])
      have hlg := xlog_any 0 bx m w5 T5 hxm5
      generalize compL m.c (coreM m) = lg5 at *
      generalize compS m.c (coreM m) = su5 at *
      go_wp2_with fail
      refine hlg.mono ?_
      clear hlg
      rintro e w6 ⟨rfl, rfl⟩
      have hne : ((lg5 : Bs)) ≠ t := fun e => by
        obtain ⟨q0, hT0, _⟩ := hlog5.told
        have h1 := hT0.whole
        rw [e, hmc, ho] at h1
        cases h1
      have hq1 : ((mkB lg5).toList == (mkB t).toList) = false := by
        rw [strEq]
        exact decide_eq_false (fun e => hne (by rw [← mkB_list lg5, ← mkB_list t, e]))
      have hbf : Below w.heap.size w w6 := ⟨f5.os, f5.tape, f5.output, f5.size, fun k hk => f5.block k hk (fun h => h rfl)⟩
      go_wp2
      go_ret
      exact ⟨rfl, hbf⟩
  | some x =>
    obtain ⟨co, ls, lgt⟩ := x
    rw [ho] at hA
    obtain ⟨bx1, vL1, rfl, hco⟩ := hA
    go_wp2_with fail
    refine hpl.mono ?_
    clear hpl
    rintro e w4 ⟨b, rfl, T4, m, L, s4, ⟨bx, gb, gc, hx, hr, hf, hq, hp⟩, hsg, htl, hmc⟩
    obtain ⟨vL, su, lg, hxm, hlog, hlsd⟩ := hx
    obtain ⟨g0, hg0⟩ : ∃ g, m.groups[0]? = some g := ⟨_, List.getElem?_eq_getElem hp⟩
    obtain ⟨bo, bc, so4, sc4, lo4, lc4, A⟩ := hr.at hg0
    have c0 := A.c0
    have c7 := A.c7
    have lb := A.lb
    have hok := hf.ok
    have hfew := hr.few
    have hcok := hlog.ok
    have f4 := f3.trans (s4.mono (fun _ h => ut_old h))
    have hO4 := hO3.step s4 (fun h => ut_free 0 _ h rfl)
    cases cp
    · have hlg := xlog_any 0 bx m w4 T4 hxm
      clear hr hq hsg htl hX hD
      go_wp2_with fail
      refine hlg.mono ?_
      clear hlg
      rintro e w5 ⟨rfl, rfl⟩
      by_cases hne : (lg : Bs) = t
      case neg =>
        have hq1 : ((mkB lg).toList == (mkB t).toList) = false := by
          rw [strEq]
          exact decide_eq_false (fun e => hne (by rw [← mkB_list lg, ← mkB_list t, e]))
        have hbf : Below w.heap.size w w5 := ⟨f4.os, f4.tape, f4.output, f4.size, fun k hk => f4.block k hk (fun h => h rfl)⟩
        go_wp2
        go_ret
        exact ⟨rfl, hbf⟩
      have hcoS := hco.step s4 (xt_ut (by decide))
      obtain ⟨q0, hT0, hS0⟩ := hlog.told
      have h1 := hT0.whole
      rw [hne, hmc, ho] at h1
      simp only [Option.some.injEq, Prod.mk.injEq] at h1
      obtain ⟨e1, e2, e3⟩ := h1
      rw [← e1] at hS0
      rw [e3, ← hne] at hcoS
      have hlogw : LogIs (wakeM m 0) lg ls := by rw [e2]; exact hlog.same rfl (wake_core (ch := 0) hxm.rels hok hxm.small).1
      have o0 := hO4.cell (j := 0) (v := .int .i64 c.l) rfl
      have o1 := hO4.cell (j := 1) (v := .int .i64 c.d) rfl
      have o2 := hO4.cell (j := 2) (v := .int .i64 c.s) rfl
      have o3 := hO4.cell (j := 3) (v := .int .i64 c.k) rfl
      have lO := hO4.lt
      have gd := step_below (fun _ => False) T4 (Below.refl w5.heap.size w5).drew
      have sn := step_new w5.drew T4 (.cells #[.pointer (some ⟨bx1, 0, none⟩), .int .i64 c.l, .int .i64 c.d, .int .i64 c.s, .int .i64 c.k, .slice none 0 0, .int .i64 0, .slice (some ⟨gb, 0, none⟩) m.groups.length gc, .int .i64 0, .bool false, .bool false, .bool false] 57) .free (fun _ => False)
      have hN := blk_new w5.drew T4 #[.pointer (some ⟨bx1, 0, none⟩), .int .i64 c.l, .int .i64 c.d, .int .i64 c.s, .int .i64 c.k, .slice none 0 0, .int .i64 0, .slice (some ⟨gb, 0, none⟩) m.groups.length gc, .int .i64 0, .bool false, .bool false, .bool false] 57 .free
      have s7 := gd.trans sn
      have hq1 : ((mkB lg).toList == (mkB t).toList) = true := by rw [hne]; simp
      have hx7 := hxm.step s7 (fun _ _ h => h)
      have hco7 := hcoS.step s7 (fun _ _ h => h)
      have f7 := f4.trans (s7.mono (fun _ h => (h.elim : _ ≠ Tag.old)))
      have c07 := (s7.cell (p := ⟨b, 0, none⟩) lb (fun h => h)).trans c0
      have c77 := (s7.cell (p := ⟨b, 7, none⟩) lb (fun h => h)).trans c7
      have tb7 : (retag T4 w5.drew.heap.size .free b).c ≠ 5 := by rw [retag_other _ _ _ (by have h9 : b < w5.heap.size := lb; intro e; rw [e] at h9; exact Nat.lt_irrefl _ h9), A.tb]; simp
      obtain ⟨σ, hAL, hTs⟩ := al_open hx7 hlog hlsd hok hmc hco7 hS0 hlogw c07 c77 (hN.cell (j := 0) (v := .pointer (some ⟨bx1, 0, none⟩)) rfl) (hN.cell (j := 7) (v := .slice (some ⟨gb, 0, none⟩) m.groups.length gc) rfl) (Nat.lt_of_lt_of_le lb s7.size) hN.lt tb7 (by rw [hN.1]; simp)
      have hbe : Below w.heap.size w (w5.drew.alloc (.cells #[.pointer (some ⟨bx1, 0, none⟩), .int .i64 c.l, .int .i64 c.d, .int .i64 c.s, .int .i64 c.k, .slice none 0 0, .int .i64 0, .slice (some ⟨gb, 0, none⟩) m.groups.length gc, .int .i64 0, .bool false, .bool false, .bool false] 57)) := ⟨f7.os, f7.tape, f7.output, f7.size, fun k hk => f7.block k hk (fun h => h rfl)⟩
      have hTo : ∀ k, k < w.heap.size → moveT 1 1 σ (retag T4 w5.drew.heap.size .free) k = .old := fun k hk => by
        have h1 : retag T4 w5.drew.heap.size .free k = .old := f7.tag k hk
        rw [hTs k (by rw [h1]; simp), h1]
      have hal := alike_any (xc 3000000000000000000 (by decide)) (by decide) hfew (hf.mono (by omega)) (fit_wake (hf.mono (B' := 3000000000000000000) (by omega))) (tells_wake hxm.rels hok hxm.small) hAL (fun k _ => told_len m (nameB k) hf hxm.small)
      clear hcoS hxm hx7 hco7 hAL hlogw gd sn s7 hN hT0 hS0 tb7 c07 c77
      go_wp2_with fail
      go_region_held3 (fun w' => w'.cell? ⟨cb, 0, none⟩ = some (.int .i64 c.l) ∧ w'.cell? ⟨cb, 1, none⟩ = some (.int .i64 c.d) ∧ w'.cell? ⟨cb, 2, none⟩ = some (.int .i64 c.s) ∧ w'.cell? ⟨cb, 3, none⟩ = some (.int .i64 c.k) ∧ w'.cell? ⟨b, 7, none⟩ = some (.slice (some ⟨gb, 0, none⟩) m.groups.length gc)) (go_keep) (fail)
      all_goals
        go_wp2_with fail
        refine hal.mono ?_
        clear hal
        rintro e w9 ⟨rfl, T9, s9, _⟩
        have hb9 : Below w.heap.size w w9 := ⟨s9.os.trans hbe.os, s9.tape.trans hbe.tape, s9.output.trans hbe.output, Nat.le_trans hbe.size s9.size, fun k hk => (s9.block k (Nat.lt_of_lt_of_le hk hbe.size) (by rw [hTo k hk]; exact sx_tag (by decide))).trans (hbe.block k hk)⟩
        go_wp2
        go_ret
        exact ⟨rfl, hb9⟩
    · have hcm := xcompact_any 0 bx m vL _ lg w4 T4 hxm hok hcok
      clear hr hq hsg htl hX hD
      go_wp2_with fail
      refine hcm.mono ?_
      clear hcm
      rintro e w5 ⟨rfl, T5, vL5, s5, hxm5⟩
      have hlog5 := log_compact hcok
      have A5 := A.step s5 (fun _ a c => xt_rt a c)
      have c05 := A5.c0
      have c75 := A5.c7
      have lb5 := A5.lb
      have f5 := f4.trans (s5.mono (fun t h => (by rintro rfl; simp [XT] at h : t ≠ Tag.old)))
      have hO5 := hO4.step s5 (by simp [XT])
      have hlg := xlog_any 0 bx m w5 T5 hxm5
      generalize compL m.c (coreM m) = lg5 at *
      generalize compS m.c (coreM m) = su5 at *
      go_wp2_with fail
      refine hlg.mono ?_
      clear hlg
      rintro e w6 ⟨rfl, rfl⟩
      by_cases hne : (lg5 : Bs) = t
      case neg =>
        have hq1 : ((mkB lg5).toList == (mkB t).toList) = false := by
          rw [strEq]
          exact decide_eq_false (fun e => hne (by rw [← mkB_list lg5, ← mkB_list t, e]))
        have hbf : Below w.heap.size w w6 := ⟨f5.os, f5.tape, f5.output, f5.size, fun k hk => f5.block k hk (fun h => h rfl)⟩
        go_wp2
        go_ret
        exact ⟨rfl, hbf⟩
      have hcoS := (hco.step s4 (xt_ut (by decide))).step s5 (fun t h1 h2 => by have a := h1.2; have b := h2.2; omega)
      obtain ⟨q0, hT0, hS0⟩ := hlog5.told
      have h1 := hT0.whole
      rw [hne, hmc, ho] at h1
      simp only [Option.some.injEq, Prod.mk.injEq] at h1
      obtain ⟨e1, e2, e3⟩ := h1
      rw [← e1] at hS0
      rw [e3, ← hne] at hcoS
      have hlogw : LogIs (wakeM m 0) lg5 ls := by rw [e2]; exact hlog5.same rfl (wake_core (ch := 0) hxm5.rels hok hxm5.small).1
      have o0 := hO5.cell (j := 0) (v := .int .i64 c.l) rfl
      have o1 := hO5.cell (j := 1) (v := .int .i64 c.d) rfl
      have o2 := hO5.cell (j := 2) (v := .int .i64 c.s) rfl
      have o3 := hO5.cell (j := 3) (v := .int .i64 c.k) rfl
      have lO := hO5.lt
      have gd := step_below (fun _ => False) T5 (Below.refl w6.heap.size w6).drew
      have sn := step_new w6.drew T5 (.cells #[.pointer (some ⟨bx1, 0, none⟩), .int .i64 c.l, .int .i64 c.d, .int .i64 c.s, .int .i64 c.k, .slice none 0 0, .int .i64 0, .slice (some ⟨gb, 0, none⟩) m.groups.length gc, .int .i64 0, .bool false, .bool false, .bool false] 57) .free (fun _ => False)
      have hN := blk_new w6.drew T5 #[.pointer (some ⟨bx1, 0, none⟩), .int .i64 c.l, .int .i64 c.d, .int .i64 c.s, .int .i64 c.k, .slice none 0 0, .int .i64 0, .slice (some ⟨gb, 0, none⟩) m.groups.length gc, .int .i64 0, .bool false, .bool false, .bool false] 57 .free
      have s7 := gd.trans sn
      have hq1 : ((mkB lg5).toList == (mkB t).toList) = true := by rw [hne]; simp
      have hx7 := hxm5.step s7 (fun _ _ h => h)
      have hco7 := hcoS.step s7 (fun _ _ h => h)
      have f7 := f5.trans (s7.mono (fun _ h => (h.elim : _ ≠ Tag.old)))
      have c07 := (s7.cell (p := ⟨b, 0, none⟩) lb5 (fun h => h)).trans c05
      have c77 := (s7.cell (p := ⟨b, 7, none⟩) lb5 (fun h => h)).trans c75
      have tb7 : (retag T5 w6.drew.heap.size .free b).c ≠ 5 := by rw [retag_other _ _ _ (by have h9 : b < w6.heap.size := lb5; intro e; rw [e] at h9; exact Nat.lt_irrefl _ h9), A5.tb]; simp
      obtain ⟨σ, hAL, hTs⟩ := al_open hx7 hlog5 hlsd hok hmc hco7 hS0 hlogw c07 c77 (hN.cell (j := 0) (v := .pointer (some ⟨bx1, 0, none⟩)) rfl) (hN.cell (j := 7) (v := .slice (some ⟨gb, 0, none⟩) m.groups.length gc) rfl) (Nat.lt_of_lt_of_le lb5 s7.size) hN.lt tb7 (by rw [hN.1]; simp)
      have hbe : Below w.heap.size w (w6.drew.alloc (.cells #[.pointer (some ⟨bx1, 0, none⟩), .int .i64 c.l, .int .i64 c.d, .int .i64 c.s, .int .i64 c.k, .slice none 0 0, .int .i64 0, .slice (some ⟨gb, 0, none⟩) m.groups.length gc, .int .i64 0, .bool false, .bool false, .bool false] 57)) := ⟨f7.os, f7.tape, f7.output, f7.size, fun k hk => f7.block k hk (fun h => h rfl)⟩
      have hTo : ∀ k, k < w.heap.size → moveT 1 1 σ (retag T5 w6.drew.heap.size .free) k = .old := fun k hk => by
        have h1 : retag T5 w6.drew.heap.size .free k = .old := f7.tag k hk
        rw [hTs k (by rw [h1]; simp), h1]
      have hal := alike_any (xc 3000000000000000000 (by decide)) (by decide) hfew (hf.mono (by omega)) (fit_wake (hf.mono (B' := 3000000000000000000) (by omega))) (tells_wake hxm5.rels hok hxm5.small) hAL (fun k _ => told_len m (nameB k) hf hxm5.small)
      clear hcoS hxm5 hx7 hco7 hAL hlogw gd sn s7 hN hT0 hS0 tb7 c07 c77
      go_wp2_with fail
      go_region_held3 (fun w' => w'.cell? ⟨cb, 0, none⟩ = some (.int .i64 c.l) ∧ w'.cell? ⟨cb, 1, none⟩ = some (.int .i64 c.d) ∧ w'.cell? ⟨cb, 2, none⟩ = some (.int .i64 c.s) ∧ w'.cell? ⟨cb, 3, none⟩ = some (.int .i64 c.k) ∧ w'.cell? ⟨b, 7, none⟩ = some (.slice (some ⟨gb, 0, none⟩) m.groups.length gc)) (go_keep) (fail)
      all_goals
        go_wp2_with fail
        refine hal.mono ?_
        clear hal
        rintro e w9 ⟨rfl, T9, s9, _⟩
        have hb9 : Below w.heap.size w w9 := ⟨s9.os.trans hbe.os, s9.tape.trans hbe.tape, s9.output.trans hbe.output, Nat.le_trans hbe.size s9.size, fun k hk => (s9.block k (Nat.lt_of_lt_of_le hk hbe.size) (by rw [hTo k hk]; exact sx_tag (by decide))).trans (hbe.block k hk)⟩
        go_wp2
        go_ret
        exact ⟨rfl, hb9⟩

end Go.Proofs.YtockkceclkcgbaaGreatDoor

/- What the two errors of package quay that stand in its variables are, when a call begins; a world in which they stand. -/
namespace Go.Proofs.YtockkceclkcgbaaGreatDoor
open Go.RowKit

def laidL : List (String × DataW Unit) := [("quay/quay.errCut", Rows.laid_quay_quay_errCut), ("quay/quay.errWrong", Rows.laid_quay_quay_errWrong)]
def cutB : ByteArray := ⟨#[116, 104, 101, 32, 116, 101, 120, 116, 32, 101, 110, 100, 115, 32, 119, 105, 116, 104, 105, 110, 32, 97, 32, 114, 101, 99, 111, 114, 100]⟩
def wrongB : ByteArray := ⟨#[116, 104, 101, 32, 116, 101, 120, 116, 32, 105, 115, 32, 110, 111, 32, 108, 111, 103]⟩
noncomputable def lowB : Nat := (World.holding Tryz.prog default ⟨#[], #[], []⟩).heap.size
noncomputable def laidWorld (os : Os) : World :=
  let w0 := World.holding Tryz.prog os ⟨#[.cells #[.string cutB] 279, .cells #[.string wrongB] 279], #[], []⟩
  { w0 with heap := (w0.heap.modify 0 fun
      | .cells _ t frozen => .cells #[.iface 257 (.pointer (some ⟨lowB, 0, none⟩))] t frozen
      | o => o).modify 1 fun
      | .cells _ t frozen => .cells #[.iface 257 (.pointer (some ⟨lowB + 1, 0, none⟩))] t frozen
      | o => o }
theorem laid_met (os : Os) (args : Array Value) : laidMet Tryz.prog laidL ((laidWorld os).forCall (fun _ _ => 0) ⟨#[], args, []⟩).memory :=
  laidMet_of_run (ps := [.cell 0 0, .cell lowB 0, .cell 1 0, .cell (lowB + 1) 0]) 8 (by kernel_rfl) (by kernel_rfl) (by kernel_rfl)
theorem laid_metH (os : Os) (args : Array Value) : laidMetH Tryz.prog laidL ((laidWorld os).forCall (fun _ _ => 0) ⟨#[], args, []⟩).memory :=
  laidMetH_of_parts (laid_met os args) (by kernel_rfl)

end Go.Proofs.YtockkceclkcgbaaGreatDoor

/- The arguments of the statements of a run, opened: numbers, and a script. -/
namespace Go.Proofs.YtockkceclkcgbaaGreatDoor
open Go.ChangeShapes Go.WideShapes Go.ChangeAt Go.RowKit

theorem Tryz.own : ownKnob Tryz.prog.godebug = none := by kernel_rfl
theorem Tryz.laidOut : laidOutB Tryz.prog = true := by kernel_rfl
theorem Tryz.cells3 : Tryz.prog.cellsOf 3 = 1 := by kernel_rfl
theorem Tryz.cells85 : Tryz.prog.cellsOf 85 = 4 := by kernel_rfl
theorem Tryz.bytes85 : Tryz.prog.bytesOf 85 = 32 := by kernel_rfl
theorem Tryz.bytes3 : Tryz.prog.bytesOf 3 = 8 := by kernel_rfl

theorem i64_wf {n : Int} (h : (Lit.int .i64 n).wf = true) : i64 n := by
  simp [Lit.wf, IntKind.min, IntKind.max, IntKind.signed, IntKind.bits] at h
  unfold i64
  omega

theorem spot_none {W : World} {a : Addr} {u : Value} (h1 : W.cell? a = some u) : a.spot = none ∧ a.block < W.heap.size := by
  unfold World.cell? at h1
  split at h1
  · rename_i c e fz hb
    refine ⟨?_, ?_⟩
    · cases hsp : a.spot with
      | none => rfl
      | some _ => rw [hsp] at h1; simp at h1
    · rcases Nat.lt_or_ge a.block W.heap.size with hlt | hge
      · exact hlt
      · rw [Array.getElem?_eq_none hge] at hb; cases hb
  · cases h1

set_option maxRecDepth 100000 in
/-- The numbers among the arguments, opened. -/
theorem open_raws {H : Type} {enc : TypeId × Value → H} {W : World} {v : Value} {d : DataW H} {p : List MemPlace} {fuel : Nat} {a0 : Option Addr} {len cap : Nat} (hv : v = .slice a0 len cap)
    (hf : DataW.trod enc Tryz.prog W 0 (fun _ => true) true fuel 50 v.cells.toList = some (d, p)) :
    ∃ l : List Int, len = l.length ∧ ArgI W a0 l ∧ (l.length = 0 ∨ ∃ xs ys, d = .slice xs ys ∧ xs.length = l.length) := by
  subst hv
  rcases Deep.open_slice Tryz.underlying50 hf with ⟨hcs, _⟩ | ⟨a, len', cap', m, n, D, Pl, hcs, _, hl, hm, hmm, hx, hel⟩
  · simp [Value.cells] at hcs
    obtain ⟨rfl, rfl, rfl⟩ := hcs
    exact ⟨[], rfl, fun k o h => by simp at h, .inl rfl⟩
  · simp [Value.cells] at hcs
    obtain ⟨rfl, rfl, rfl⟩ := hcs
    have hlm : len ≤ m := by rw [hmm]; split <;> omega
    have each : ∀ i, i < m → ∃ o : Int, i64 o ∧ W.cell? (a.add i) = some (.int .i64 o) := by
      intro i hi
      obtain ⟨cs', h1, h2⟩ := hel i hi
      rw [Tryz.cells3] at h1
      obtain ⟨_, hlen, hcell⟩ := World.cells?_some h1
      obtain ⟨a0, e0, _, w0⟩ := DataW.trod_int Tryz.underlying3 h2
      subst e0
      refine ⟨a0, i64_wf w0, ?_⟩
      have hc := hcell 0 (by decide)
      rw [Deep.add_add, Nat.mul_one, Nat.add_zero] at hc
      rw [hc]
      rfl
    have hpick : ∃ f : Nat → Int, ∀ i, i < m → i64 (f i) ∧ W.cell? (a.add i) = some (.int .i64 (f i)) := Deep.choose_lt each
    obtain ⟨f, hf2⟩ := hpick
    refine ⟨(List.range len).map f, by simp, fun k o hk => ?_, .inr ⟨_, _, (Prod.mk.inj hx).1, by simp⟩⟩
    have hkl : k < len := by
      have := (List.getElem?_eq_some_iff.1 hk).1
      simpa using this
    have ho : o = f k := by
      simp [hkl] at hk
      exact hk.symm
    subst ho
    obtain ⟨r1, r3⟩ := hf2 k (by omega)
    refine ⟨r1, ?_⟩
    have h1 := (hf2 0 (by omega)).2
    have hs : a.spot = none ∧ a.block < W.heap.size := by
      simp only [Addr.add, if_true] at h1
      exact spot_none h1
    obtain ⟨ab, aoff, asp⟩ := a
    obtain ⟨rfl, hb⟩ := hs
    refine ⟨ab, aoff, rfl, hb, ?_⟩
    rw [Addr.add_lit] at r3
    exact r3

set_option maxRecDepth 100000 in
/-- The script among the arguments, opened. -/
theorem open_steps {H : Type} {enc : TypeId × Value → H} {W : World} {v : Value} {d : DataW H} {p : List MemPlace} {fuel : Nat} {a0 : Option Addr} {len cap : Nat} (hv : v = .slice a0 len cap)
    (hf : DataW.trod enc Tryz.prog W 0 (fun _ => true) true fuel 51 v.cells.toList = some (d, p)) :
    ∃ l : List StV, len = l.length ∧ ArgS W a0 l ∧ (l.length = 0 ∨ ∃ xs ys, d = .slice xs ys ∧ xs.length = l.length) := by
  subst hv
  rcases Deep.open_slice Tryz.underlying51 hf with ⟨hcs, _⟩ | ⟨a, len', cap', m, n, D, Pl, hcs, _, hl, hm, hmm, hx, hel⟩
  · simp [Value.cells] at hcs
    obtain ⟨rfl, rfl, rfl⟩ := hcs
    exact ⟨[], rfl, fun k o h => by simp at h, .inl rfl⟩
  · simp [Value.cells] at hcs
    obtain ⟨rfl, rfl, rfl⟩ := hcs
    have hlm : len ≤ m := by rw [hmm]; split <;> omega
    have each : ∀ i, i < m → ∃ o : StV, i64 o.G ∧ i64 o.n ∧ i64 o.ms ∧ ∀ j u, o.cells[j]? = some u → W.cell? (a.add (i * 4 + j)) = some u := by
      intro i hi
      obtain ⟨cs', h1, h2⟩ := hel i hi
      rw [Tryz.cells85] at h1
      obtain ⟨_, hlen, hcell⟩ := World.cells?_some h1
      obtain ⟨xs, k, _, _, _, hxl, hfd⟩ := DataW.trod_struct Tryz.underlying85 h2
      match xs, hxl, cs', hlen with
      | [y0, y1, y2, y3], _, [v0, v1, v2, v3], _ =>
        have g0 := hfd 0 _ rfl
        have g1 := hfd 1 _ rfl
        have g2 := hfd 2 _ rfl
        have g3 := hfd 3 _ rfl
        simp [Tryz.cells3] at g0 g1 g2 g3
        obtain ⟨a0, e0, _, _⟩ := DataW.trod_int Tryz.underlying3 g0
        obtain ⟨a1, e1, _, w1⟩ := DataW.trod_int Tryz.underlying3 g1
        obtain ⟨a2, e2, _, w2⟩ := DataW.trod_int Tryz.underlying3 g2
        obtain ⟨a3, e3, _, w3⟩ := DataW.trod_int Tryz.underlying3 g3
        simp only [List.cons.injEq, and_true] at e0 e1 e2 e3
        subst e0 e1 e2 e3
        refine ⟨⟨a0, a1, a2, a3⟩, i64_wf w1, i64_wf w2, i64_wf w3, fun j u hj => ?_⟩
        have hj4 : j < 4 := by
          rcases Nat.lt_or_ge j 4 with h | h
          · exact h
          · rw [Array.getElem?_eq_none (by simpa [StV.cells] using h)] at hj; cases hj
        have hc := hcell j (by omega)
        rw [Deep.add_add] at hc
        rw [hc]
        simpa [StV.cells] using hj
    have hpick : ∃ f : Nat → StV, ∀ i, i < m → i64 (f i).G ∧ i64 (f i).n ∧ i64 (f i).ms ∧ ∀ j u, (f i).cells[j]? = some u → W.cell? (a.add (i * 4 + j)) = some u := by
      haveI : Inhabited StV := ⟨⟨0, 0, 0, 0⟩⟩
      exact Deep.choose_lt each
    obtain ⟨f, hf2⟩ := hpick
    refine ⟨(List.range len).map f, by simp, fun k o hk => ?_, .inr ⟨_, _, (Prod.mk.inj hx).1, by simp⟩⟩
    have hkl : k < len := by
      have := (List.getElem?_eq_some_iff.1 hk).1
      simpa using this
    have ho : o = f k := by
      simp [hkl] at hk
      exact hk.symm
    subst ho
    obtain ⟨r1, r2, r2', r3⟩ := hf2 k (by omega)
    refine ⟨r1, r2, r2', ?_⟩
    have h1 := (hf2 0 (by omega)).2.2.2 0 _ rfl
    have hs : a.spot = none ∧ a.block < W.heap.size := by
      simp only [Nat.zero_mul, Nat.add_zero, Addr.add, if_true] at h1
      exact spot_none h1
    obtain ⟨ab, aoff, asp⟩ := a
    obtain ⟨rfl, hb⟩ := hs
    refine ⟨ab, aoff, rfl, hb, fun j u hj => ?_⟩
    have := r3 j u hj
    rw [Addr.add_lit, ← Nat.add_assoc] at this
    exact this

end Go.Proofs.YtockkceclkcgbaaGreatDoor

/- Where the two errors of package quay lie when a call begins. -/
namespace Go.Proofs.YtockkceclkcgbaaGreatDoor
open Go.RowKit Go.Extern.Stop Go.Stop Go.Extern

theorem Tryz.gCut : Tryz.prog.globalNamed "quay/quay.errCut" = some 0 := by kernel_rfl
theorem Tryz.gWrong : Tryz.prog.globalNamed "quay/quay.errWrong" = some 1 := by kernel_rfl
theorem Tryz.gCutType : (Tryz.prog.globals[0]?).map (·.type) = some 126 := by kernel_rfl
theorem Tryz.gWrongType : (Tryz.prog.globals[1]?).map (·.type) = some 126 := by kernel_rfl
theorem Tryz.cellsEs : Tryz.prog.cellsOf 279 = 1 := by kernel_rfl
theorem Tryz.cellsSt : Tryz.prog.cellsOf 9 = 1 := by kernel_rfl
theorem Tryz.starEs : "*" ++ "errors.errorString" = "*errors.errorString" := by decide
theorem Tryz.rowEs (u : TypeId) (h : Tryz.prog.typeName? 3 u = some "*errors.errorString") : u = 257 :=
  typeName_ptr_named (nm := "errors.errorString") (by rw [Tryz.starEs]; kernel_rfl) (by kernel_rfl) (by decide) u (by rw [Tryz.starEs]; exact h)

theorem laid_open {W : World} (h : laidMetH Tryz.prog laidL W) : ∃ a0 a1, Laid W (fun _ => .old) a0 a1 := by
  have hL : laidMet Tryz.prog laidL W := h
  obtain ⟨a0, a1, s0, s1, c0, c1, t0, t1, hv0, hv1, hc0, hs0, hz0, hc1, hs1, hz1, hne, hb0, hb1⟩ := laid_sentinels2 hL Tryz.gCut Tryz.gCutType Tryz.gWrong Tryz.gWrongType Tryz.underlying126 Tryz.rowEs Tryz.underlying257 Tryz.underlying279 rfl rfl Tryz.underlying9 Tryz.cellsEs Tryz.cellsSt
  have hg0 : W.cell? ⟨0, 0, none⟩ = some (.iface 257 (.pointer (some a0))) := by simpa using World.var?_cell Tryz.gCut hv0 0
  have hg1 : W.cell? ⟨1, 0, none⟩ = some (.iface 257 (.pointer (some a1))) := by simpa using World.var?_cell Tryz.gWrong hv1 0
  have hl : ∀ g v, W.cell? ⟨g, 0, none⟩ = some v → g < W.heap.size := fun g v hc => by
    unfold World.cell? at hc
    rcases Nat.lt_or_ge g W.heap.size with hlt | hge
    · exact hlt
    · simp [Array.getElem?_eq_none hge] at hc
  exact ⟨a0, a1, ⟨hg0, rfl, hl _ _ hg0, ⟨c0, t0, hb0⟩, rfl⟩, ⟨hg1, rfl, hl _ _ hg1, ⟨c1, t1, hb1⟩, rfl⟩, hne⟩

end Go.Proofs.YtockkceclkcgbaaGreatDoor

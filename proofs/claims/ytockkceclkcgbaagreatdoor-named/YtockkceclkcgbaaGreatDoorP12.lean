/- alike, of any two runs: it answers true or false. -/
import Derived.Test.YtockkceclkcgbaaGreatDoorP11
namespace Go.Proofs.YtockkceclkcgbaaGreatDoor
open Go.RowKit

/-- two runs, as alike looks at them: their groups may be of two numbers -/
structure AM (X : World → (Nat → Tag) → Nat → Nat → MQ → Prop) (w : World) (T : Nat → Tag) (ia ib ba bb bxa bxb : Nat) (ma mb : MQ) (K Kb : Nat) (ga : Option Addr) (gca : Nat) (gb : Option Addr) (gcb : Nat) : Prop where
  xa : X w T ia bxa ma
  xb : X w T ib bxb mb
  ca0 : w.cell? ⟨ba, 0, none⟩ = some (.pointer (some ⟨bxa, 0, none⟩))
  ca7 : w.cell? ⟨ba, 7, none⟩ = some (.slice ga K gca)
  cb0 : w.cell? ⟨bb, 0, none⟩ = some (.pointer (some ⟨bxb, 0, none⟩))
  cb7 : w.cell? ⟨bb, 7, none⟩ = some (.slice gb Kb gcb)
  la : ba < w.heap.size
  lb : bb < w.heap.size
  ta : ¬ SX ia ib (T ba)
  tb : ¬ SX ia ib (T bb)
variable {X : World → (Nat → Tag) → Nat → Nat → MQ → Prop} {Bm : Int} {w w' : World} {T T' : Nat → Tag} {ia ib ba bb bxa bxb : Nat} {ma mb : MQ} {K Kb : Nat} {ga gb : Option Addr} {gca gcb : Nat}
theorem AM.cells {S : Tag → Prop} (h : AM X w T ia ib ba bb bxa bxb ma mb K Kb ga gca gb gcb) (hs : Step S w T w' T') (hS : ∀ t, S t → SX ia ib t) (ha : X w' T' ia bxa ma) (hb : X w' T' ib bxb mb) : AM X w' T' ia ib ba bb bxa bxb ma mb K Kb ga gca gb gcb := by
  have n1 : ¬ S (T ba) := fun h1 => h.ta (hS _ h1)
  have n2 : ¬ S (T bb) := fun h1 => h.tb (hS _ h1)
  exact ⟨ha, hb, (hs.cell (p := ⟨ba, 0, none⟩) h.la n1).trans h.ca0, (hs.cell (p := ⟨ba, 7, none⟩) h.la n1).trans h.ca7, (hs.cell (p := ⟨bb, 0, none⟩) h.lb n2).trans h.cb0, (hs.cell (p := ⟨bb, 7, none⟩) h.lb n2).trans h.cb7, Nat.lt_of_lt_of_le h.la hs.size, Nat.lt_of_lt_of_le h.lb hs.size, by rw [hs.tag _ h.la]; exact h.ta, by rw [hs.tag _ h.lb]; exact h.tb⟩
theorem AM.step (hX : XQ X Bm) (_hne : ia ≠ ib) (h : AM X w T ia ib ba bb bxa bxb ma mb K Kb ga gca gb gcb) (hs : Step (fun _ => False) w T w' T') : AM X w' T' ia ib ba bb bxa bxb ma mb K Kb ga gca gb gcb :=
  h.cells hs (fun _ h => h.elim) (hX.step h.xa hs (fun _ _ h => h)) (hX.step h.xb hs (fun _ _ h => h))
theorem AM.after (hX : XQ X Bm) (hne : ia ≠ ib) (h : AM X w T ia ib ba bb bxa bxb ma mb K Kb ga gca gb gcb) (hs : Step (XT ia) w T w' T') (ha : X w' T' ia bxa ma) : AM X w' T' ia ib ba bb bxa bxb ma mb K Kb ga gca gb gcb :=
  h.cells hs (fun _ h => .inl h) ha (hX.step h.xb hs (fun _ h1 h2 => hne (h2.2.symm.trans h1.2)))
theorem AM.afterb (hX : XQ X Bm) (hne : ia ≠ ib) (h : AM X w T ia ib ba bb bxa bxb ma mb K Kb ga gca gb gcb) (hs : Step (XT ib) w T w' T') (hb : X w' T' ib bxb mb) : AM X w' T' ia ib ba bb bxa bxb ma mb K Kb ga gca gb gcb :=
  h.cells hs (fun _ h => .inr h) (hX.step h.xa hs (fun _ h1 h2 => hne (h1.2.symm.trans h2.2))) hb
theorem AM.al (h : AM X w T ia ib ba bb bxa bxb ma mb K K ga gca gb gcb) : AL X w T ia ib ba bb bxa bxb ma mb K ga gca gb gcb := ⟨h.xa, h.xb, h.ca0, h.ca7, h.cb0, h.cb7, h.la, h.lb, h.ta, h.tb⟩
theorem AL.am (h : AL X w T ia ib ba bb bxa bxb ma mb K ga gca gb gcb) : AM X w T ia ib ba bb bxa bxb ma mb K K ga gca gb gcb := ⟨h.xa, h.xb, h.ca0, h.ca7, h.cb0, h.cb7, h.la, h.lb, h.ta, h.tb⟩

attribute [local go_sem] over_cell

set_option maxRecDepth 100000 in
set_option maxHeartbeats 4000000 in
theorem alike_some (hX : XQ X Bm) (hne : ia ≠ ib) (hK : K ≤ 6) (hKb : Kb ≤ 6) (hfa : ma.Fit Bm) (hfb : mb.Fit Bm) (h : AM X w T ia ib ba bb bxa bxb ma mb K Kb ga gca gb gcb) (hdl : ∀ k, k < 6 → (doneL ma (nameB k)).length ≤ 100000 ∧ (deadL ma (nameB k)).length ≤ 100000 ∧ (doneL mb (nameB k)).length ≤ 100000 ∧ (deadL mb (nameB k)).length ≤ 100000) :
    Calls Tryz.prog 36 #[.pointer (some ⟨ba, 0, none⟩), .pointer (some ⟨bb, 0, none⟩)] w fun e w' => ∃ r : Bool, e = .returned (.bool r) ∧ ∃ T', Step (SX ia ib) w T w' T' ∧ AM X w' T' ia ib ba bb bxa bxb ma mb K Kb ga gca gb gcb := by
  have hsa := hX.span ia bxa ma w T h.xa hfa
  have ca0 := h.ca0
  have la := h.la
  obtain ⟨fl, hfl⟩ : ∃ fl, ma.floor = fl := ⟨_, rfl⟩
  obtain ⟨hi, hhi⟩ : ∃ hi : Nat, ma.bodies.length = hi := ⟨_, rfl⟩
  obtain ⟨flb, hflb⟩ : ∃ fl, mb.floor = fl := ⟨_, rfl⟩
  obtain ⟨hib, hhib⟩ : ∃ hi : Nat, mb.bodies.length = hi := ⟨_, rfl⟩
  rw [hfl, hhi] at hsa
  go_enter Tryz.func36, Tryz.ntmps36
  go_wp2_with fail
  refine hsa.mono ?_
  clear hsa
  rintro e w1 ⟨rfl, T1, s1, hx1⟩
  have A1 := h.after hX hne s1 hx1
  have sn1 := step_new w1 T1 (.cells #[.int .i64 fl, .int .i64 hi] 69) .free (fun _ => False)
  have hO1 := blk_new w1 T1 #[.int .i64 fl, .int .i64 hi] 69 .free
  have A2 := A1.step hX hne sn1
  have s02 : Step (SX ia ib) w T _ _ := (s1.mono (fun _ h => .inl h)).trans (sn1.mono (fun _ h => h.elim))
  have hsb := hX.span ib bxb mb _ _ A2.xb hfb
  rw [hflb, hhib] at hsb
  have cb0 := A2.cb0
  have lb := A2.lb
  clear ca0 la h hx1 s1
  go_wp2_with fail
  generalize retag T1 w1.heap.size .free = T2 at *
  generalize w1.alloc (.cells #[.int .i64 fl, .int .i64 (hi : Int)] 69) = w2 at *
  generalize w1.heap.size = o1 at hO1 ⊢
  refine hsb.mono ?_
  clear hsb
  rintro e w3 ⟨rfl, T3, s3, hx3⟩
  have A3 := A2.afterb hX hne s3 hx3
  have hO1' := hO1.step s3 (by simp [XT])
  have sn3 := step_new w3 T3 (.cells #[.int .i64 flb, .int .i64 hib] 69) .free (fun _ => False)
  have hO2 := blk_new w3 T3 #[.int .i64 flb, .int .i64 hib] 69 .free
  have hO1'' := hO1'.step sn3 (fun h => h)
  have A3' := A3.step hX hne sn3
  have s03 : Step (SX ia ib) w T _ _ := (s02.trans (s3.mono (fun _ h => .inr h))).trans (sn3.mono (fun _ h => h.elim))
  clear cb0 lb A1 A2 A3 hx3 s3 sn1 sn3 hO1 hO1' s02
  go_wp2_with fail
  generalize retag T3 w3.heap.size .free = T3 at *
  generalize w3.alloc (.cells #[.int .i64 flb, .int .i64 (hib : Int)] 69) = w3' at *
  generalize w3.heap.size = o2 at hO2 ⊢
  have p0 := hO1''.cell (j := 0) (v := .int .i64 fl) rfl
  have p1 := hO1''.cell (j := 1) (v := .int .i64 hi) rfl
  have q0 := hO2.cell (j := 0) (v := .int .i64 flb) rfl
  have q1 := hO2.cell (j := 1) (v := .int .i64 hib) rfl
  have lp := hO1''.lt
  have lq := hO2.lt
  have ca7 := A3'.ca7
  have cb7 := A3'.cb7
  have la := A3'.la
  have lb := A3'.lb
  by_cases hE1 : fl = flb
  case neg =>
    refine wp_region_over (by kernel_rfl) (by kernel_rfl) ?_
    repeat (go_big_quiet_step (fail))
    refine wpQuiet_nil ?_
    rintro _ ⟨x4, rfl⟩
    have g4 := step_below (fun _ => False) T3 (over_below w3' x4)
    have A4 := A3'.step hX hne g4
    have s04 := s03.trans (g4.mono (fun _ h => (h.elim : SX ia ib _)))
    clear p0 p1 q0 q1 lp lq ca7 cb7 la lb A3' g4 hO1'' hO2 s03
    generalize over w3' x4 = w4 at *
    go_wp2
    go_ret
    exact ⟨false, rfl, T3, s04, A4⟩
  by_cases hE2 : (hi : Int) = hib
  case neg =>
    refine wp_region_over (by kernel_rfl) (by kernel_rfl) ?_
    repeat (go_big_quiet_step (fail))
    refine wpQuiet_nil ?_
    rintro _ ⟨x4, rfl⟩
    have g4 := step_below (fun _ => False) T3 (over_below w3' x4)
    have A4 := A3'.step hX hne g4
    have s04 := s03.trans (g4.mono (fun _ h => (h.elim : SX ia ib _)))
    clear p0 p1 q0 q1 lp lq ca7 cb7 la lb A3' g4 hO1'' hO2 s03
    generalize over w3' x4 = w4 at *
    go_wp2
    go_ret
    exact ⟨false, rfl, T3, s04, A4⟩
  by_cases hE3 : (K : Int) = Kb
  case neg =>
    refine wp_region_over (by kernel_rfl) (by kernel_rfl) ?_
    repeat (go_big_quiet_step (fail))
    refine wpQuiet_nil ?_
    rintro _ ⟨x4, rfl⟩
    have g4 := step_below (fun _ => False) T3 (over_below w3' x4)
    have A4 := A3'.step hX hne g4
    have s04 := s03.trans (g4.mono (fun _ h => (h.elim : SX ia ib _)))
    clear p0 p1 q0 q1 lp lq ca7 cb7 la lb A3' g4 hO1'' hO2 s03
    generalize over w3' x4 = w4 at *
    go_wp2
    go_ret
    exact ⟨false, rfl, T3, s04, A4⟩
  have hE2' : hi = hib := by omega
  have hE3' : K = Kb := by omega
  subst hE1 hE2' hE3'
  clear hE2 hE3
  refine wp_region_over (by kernel_rfl) (by kernel_rfl) ?_
  repeat (go_big_quiet_step (fail))
  refine wpQuiet_nil ?_
  rintro _ ⟨x4, rfl⟩
  have g4 := step_below (fun _ => False) T3 (over_below w3' x4)
  have A4 := A3'.step hX hne g4
  have s04 := s03.trans (g4.mono (fun _ h => (h.elim : SX ia ib _)))
  clear p0 p1 q0 q1 lp lq ca7 cb7 la lb A3' g4 hO1'' hO2 s03
  generalize over w3' x4 = w4 at *
  go_wp2_with fail
  go_loopw [7] (fun v wr => ∃ (k : Nat) (T' : Nat → Tag), k ≤ K ∧ v = .int .i64 k ∧ Step (SX ia ib) w T wr T' ∧ AM X wr T' ia ib ba bb bxa bxb ma mb K K ga gca gb gcb) (fun v _ => K - (intOf v).toNat)
  case atStart => exact ⟨0, T3, Nat.zero_le _, rfl, s04, A4⟩
  case round =>
    clear A4 s04
    obtain ⟨k, T4, hk, rfl, s4, A4⟩ := hrel
    have ca7 := A4.ca7
    have la4 := A4.la
    by_cases hkl : k < K
    case neg =>
      have ek : k = K := by omega
      subst ek
      go_wp2
      go_ret
      exact ⟨true, rfl, T4, s4, A4⟩
    generalize hw4 : wr = w4 at *
    clear hw4
    have hnm := fun w1 => name_exact k (by omega) w1
    obtain ⟨D, hD⟩ : ∃ D, Hid (doneL ma (nameB k) = D) := ⟨_, hide rfl⟩
    obtain ⟨E, hE⟩ : ∃ E, Hid (deadL ma (nameB k) = E) := ⟨_, hide rfl⟩
    obtain ⟨D2, hD2⟩ : ∃ D, Hid (doneL mb (nameB k) = D) := ⟨_, hide rfl⟩
    obtain ⟨E2, hE2⟩ : ∃ E, Hid (deadL mb (nameB k) = E) := ⟨_, hide rfl⟩
    have hd4 : doneL ma (nameB k) = D := hD.out
    have hd5 : doneL mb (nameB k) = D2 := hD2.out
    have hd6 : deadL ma (nameB k) = E := hE.out
    have hd7 : deadL mb (nameB k) = E2 := hE2.out
    obtain ⟨hdk1, hdk2, hdk3, hdk4⟩ := hdl k (by omega)
    rw [hd4] at hdk1
    rw [hd6] at hdk2
    rw [hd5] at hdk3
    rw [hd7] at hdk4
    clear hD hE hD2 hE2
    have hc4 : ∀ W, Below w4.heap.size w4 W → Calls Tryz.prog 28 #[.pointer (some ⟨bxa, 0, none⟩), .string (nameB k)] W fun e w' => ∃ ao cap, e = .returned (.tuple #[.slice ao D.length cap, .int .i64 (doneE ma (nameB k))]) ∧ ∃ T', AM X w' T' ia ib ba bb bxa bxb ma mb K K ga gca gb gcb ∧ Step (SX ia ib) w4 T4 w' T' ∧ Row w' T' .pa 69 2 (.slice ao D.length cap) D.length (pairVals D) := fun W hW => by
      have g := step_below (fun _ => False) T4 hW
      have hh := hX.done ia bxa ma (nameB k) .pa W T4 (hX.step A4.xa g (fun _ _ h => h)) hfa
      rw [hd4] at hh
      refine hh.mono ?_
      rintro e w' ⟨ao, cap, rfl, T', s', hx', hr'⟩
      exact ⟨ao, cap, rfl, T', (A4.step hX hne (g.mono (fun _ h => h.elim))).after hX hne s' hx', (g.mono (fun _ h => (h.elim : SX ia ib _))).trans (s'.mono (fun _ h => .inl h)), hr'⟩
    have c04 := A4.ca0
    have l04 := A4.la
    go_wp2_with fail
    go_region_held3 (fun w' => w'.cell? ⟨ba, 0, none⟩ = some (.pointer (some ⟨bxa, 0, none⟩))) (go_keep) (first | (go_at_call 35; refine (hnm _).mono ?_; rintro e w5 ⟨rfl, rfl⟩) | (go_at_call 28; refine (hc4 _ ((Below.refl _ _).alloc (Nat.le_refl _) _).drew).mono ?_; clear hc4; rintro e w5 ⟨ao4, cap4, rfl, T5, A5, s5, R4⟩; have k04 := A5.ca0))
    clear c04 l04 k04
    have hc5 : ∀ W, Below w5.heap.size w5 W → Calls Tryz.prog 28 #[.pointer (some ⟨bxb, 0, none⟩), .string (nameB k)] W fun e w' => ∃ ao cap, e = .returned (.tuple #[.slice ao D2.length cap, .int .i64 (doneE mb (nameB k))]) ∧ ∃ T', AM X w' T' ia ib ba bb bxa bxb ma mb K K ga gca gb gcb ∧ Step (SX ia ib) w5 T5 w' T' ∧ Row w' T' .pb 69 2 (.slice ao D2.length cap) D2.length (pairVals D2) := fun W hW => by
      have g := step_below (fun _ => False) T5 hW
      have hh := hX.done ib bxb mb (nameB k) .pb W T5 (hX.step A5.xb g (fun _ _ h => h)) hfb
      rw [hd5] at hh
      refine hh.mono ?_
      rintro e w' ⟨ao, cap, rfl, T', s', hx', hr'⟩
      exact ⟨ao, cap, rfl, T', (A5.step hX hne (g.mono (fun _ h => h.elim))).afterb hX hne s' hx', (g.mono (fun _ h => (h.elim : SX ia ib _))).trans (s'.mono (fun _ h => .inr h)), hr'⟩
    have c05 := A5.cb0
    have l05 := A5.lb
    go_wp2_with fail
    go_region_held3 (fun w' => w'.cell? ⟨bb, 0, none⟩ = some (.pointer (some ⟨bxb, 0, none⟩))) (go_keep) (first | (go_at_call 35; refine (hnm _).mono ?_; rintro e w5 ⟨rfl, rfl⟩) | (go_at_call 28; refine (hc5 _ ((Below.refl _ _).alloc (Nat.le_refl _) _).drew).mono ?_; clear hc5; rintro e w6 ⟨ao5, cap5, rfl, T6, A6, s6, R5⟩; have k05 := A6.cb0))
    clear c05 l05 k05
    have hc6 : ∀ W, Below w6.heap.size w6 W → Calls Tryz.prog 29 #[.pointer (some ⟨bxa, 0, none⟩), .string (nameB k)] W fun e w' => ∃ ao cap, e = .returned (.tuple #[.slice ao E.length cap, .int .i64 (doneE ma (nameB k))]) ∧ ∃ T', AM X w' T' ia ib ba bb bxa bxb ma mb K K ga gca gb gcb ∧ Step (SX ia ib) w6 T6 w' T' ∧ Row w' T' .pc 82 3 (.slice ao E.length cap) E.length (dlVals E) := fun W hW => by
      have g := step_below (fun _ => False) T6 hW
      have hh := hX.dead ia bxa ma (nameB k) .pc W T6 (hX.step A6.xa g (fun _ _ h => h)) hfa
      rw [hd6] at hh
      refine hh.mono ?_
      rintro e w' ⟨ao, cap, rfl, T', s', hx', hr'⟩
      exact ⟨ao, cap, rfl, T', (A6.step hX hne (g.mono (fun _ h => h.elim))).after hX hne s' hx', (g.mono (fun _ h => (h.elim : SX ia ib _))).trans (s'.mono (fun _ h => .inl h)), hr'⟩
    have c06 := A6.ca0
    have l06 := A6.la
    go_wp2_with fail
    go_region_held3 (fun w' => w'.cell? ⟨ba, 0, none⟩ = some (.pointer (some ⟨bxa, 0, none⟩))) (go_keep) (first | (go_at_call 35; refine (hnm _).mono ?_; rintro e w5 ⟨rfl, rfl⟩) | (go_at_call 29; refine (hc6 _ ((Below.refl _ _).alloc (Nat.le_refl _) _).drew).mono ?_; clear hc6; rintro e w7 ⟨ao6, cap6, rfl, T7, A7, s7, R6⟩; have k06 := A7.ca0))
    clear c06 l06 k06
    have hc7 : ∀ W, Below w7.heap.size w7 W → Calls Tryz.prog 29 #[.pointer (some ⟨bxb, 0, none⟩), .string (nameB k)] W fun e w' => ∃ ao cap, e = .returned (.tuple #[.slice ao E2.length cap, .int .i64 (doneE mb (nameB k))]) ∧ ∃ T', AM X w' T' ia ib ba bb bxa bxb ma mb K K ga gca gb gcb ∧ Step (SX ia ib) w7 T7 w' T' ∧ Row w' T' .pd 82 3 (.slice ao E2.length cap) E2.length (dlVals E2) := fun W hW => by
      have g := step_below (fun _ => False) T7 hW
      have hh := hX.dead ib bxb mb (nameB k) .pd W T7 (hX.step A7.xb g (fun _ _ h => h)) hfb
      rw [hd7] at hh
      refine hh.mono ?_
      rintro e w' ⟨ao, cap, rfl, T', s', hx', hr'⟩
      exact ⟨ao, cap, rfl, T', (A7.step hX hne (g.mono (fun _ h => h.elim))).afterb hX hne s' hx', (g.mono (fun _ h => (h.elim : SX ia ib _))).trans (s'.mono (fun _ h => .inr h)), hr'⟩
    have c07 := A7.cb0
    have l07 := A7.lb
    go_wp2_with fail
    go_region_held3 (fun w' => w'.cell? ⟨bb, 0, none⟩ = some (.pointer (some ⟨bxb, 0, none⟩))) (go_keep) (first | (go_at_call 35; refine (hnm _).mono ?_; rintro e w5 ⟨rfl, rfl⟩) | (go_at_call 29; refine (hc7 _ ((Below.refl _ _).alloc (Nat.le_refl _) _).drew).mono ?_; clear hc7; rintro e w8 ⟨ao7, cap7, rfl, T8, A8, s8, R7⟩; have k07 := A8.cb0))
    clear c07 l07 k07
    have R4' := ((R4.step s6 (sx_tag (by decide))).step s7 (sx_tag (by decide))).step s8 (sx_tag (by decide))
    have R5' := (R5.step s7 (sx_tag (by decide))).step s8 (sx_tag (by decide))
    have R6' := R6.step s8 (sx_tag (by decide))
    have s08 := (((s4.trans s5).trans s6).trans s7).trans s8
    clear R4 R5 R6 s4 s5 s6 s7 s8 A4 A5 A6 A7 hd4 hd5 hd6 hd7 ca7 la4
    by_cases hLD : (D.length : Int) = D2.length
    case neg =>
      have P := hide (And.intro s08 A8)
      clear R4' R5' R6' R7 s08 A8
      go_wp2
      go_ret
      exact ⟨false, rfl, T8, P.out.1, P.out.2⟩
    by_cases hLE : (E.length : Int) = E2.length
    case neg =>
      have P := hide (And.intro s08 A8)
      clear R4' R5' R6' R7 s08 A8
      go_wp2
      go_ret
      exact ⟨false, rfl, T8, P.out.1, P.out.2⟩
    have P := hide (And.intro s08 A8)
    clear s08 A8
    go_wp2_with fail
    go_loopw [16] (fun v wx => ∃ q : Nat, q ≤ D.length ∧ v = .int .i64 q ∧ Below w8.heap.size w8 wx) (fun v _ => D.length - (intOf v).toNat)
    case atStart => exact ⟨0, Nat.zero_le _, rfl, Below.refl _ _⟩
    case round =>
      obtain ⟨q, hq, rfl, hb9⟩ := hrel
      by_cases hql : q < D.length
      · have hql2 : q < D2.length := by omega
        obtain ⟨⟨ra, rb⟩, hrq⟩ : ∃ r, D[q]? = some r := ⟨_, List.getElem?_eq_getElem hql⟩
        obtain ⟨⟨sa, sb⟩, hsq⟩ : ∃ r, D2[q]? = some r := ⟨_, List.getElem?_eq_getElem hql2⟩
        obtain ⟨pa6, _, e⟩ := row_some R4' (by omega)
        cases e
        obtain ⟨pb6, _, e⟩ := row_some R5' (by omega)
        cases e
        obtain ⟨t0, t1⟩ := pairVals_at D q _ hrq
        obtain ⟨u0, u1⟩ := pairVals_at D2 q _ hsq
        have l1 := R4'.lt
        have l2 := R5'.lt
        have x0 := (hb9.cell (p := ⟨pa6, q * 2, none⟩) l1).trans (R4'.cell t0)
        have x1 := (hb9.cell (p := ⟨pa6, q * 2 + 1, none⟩) l1).trans (R4'.cell t1)
        have y0 := (hb9.cell (p := ⟨pb6, q * 2, none⟩) l2).trans (R5'.cell u0)
        have y1 := (hb9.cell (p := ⟨pb6, q * 2 + 1, none⟩) l2).trans (R5'.cell u1)
        have m1 := Nat.lt_of_lt_of_le l1 hb9.size
        have m2 := Nat.lt_of_lt_of_le l2 hb9.size
        simp only at x0 x1 y0 y1
        clear t0 t1 u0 u1 R4' R5' R6' R7
        by_cases hs0 : ra = sa
        case neg =>
          go_wp2_with fail
          refine wp_region_over (by kernel_rfl) (by kernel_rfl) ?_
          repeat (go_big_quiet_step (fail))
          refine wpQuiet_nil ?_
          rintro _ ⟨x9, rfl⟩
          have g9 := step_below (fun _ => False) T8 (hb9.trans ((over_below wr x9).mono hb9.size))
          generalize over wr x9 = w9 at *
          go_wp2
          go_ret
          exact ⟨false, rfl, T8, P.out.1.trans (g9.mono (fun _ h => h.elim)), P.out.2.step hX hne g9⟩
        by_cases hs1 : rb = sb
        case neg =>
          go_wp2_with fail
          refine wp_region_over (by kernel_rfl) (by kernel_rfl) ?_
          repeat (go_big_quiet_step (fail))
          refine wpQuiet_nil ?_
          rintro _ ⟨x9, rfl⟩
          have g9 := step_below (fun _ => False) T8 (hb9.trans ((over_below wr x9).mono hb9.size))
          generalize over wr x9 = w9 at *
          go_wp2
          go_ret
          exact ⟨false, rfl, T8, P.out.1.trans (g9.mono (fun _ h => h.elim)), P.out.2.step hX hne g9⟩
        subst hs0 hs1
        go_wp2_with fail
        refine wp_region_over (by kernel_rfl) (by kernel_rfl) ?_
        repeat (go_big_quiet_step (fail))
        refine wpQuiet_nil ?_
        rintro _ ⟨x9, rfl⟩
        have hov := hb9.trans ((over_below wr x9).mono hb9.size)
        generalize over wr x9 = w9 at *
        go_wp2
        exact ⟨⟨q + 1, by omega, by simp, hov⟩, by simp [intOf]; omega⟩
      · clear R4' R5'
        go_wp2_with fail
        go_loopw [17] (fun v wx => ∃ q : Nat, q ≤ E.length ∧ v = .int .i64 q ∧ Below w8.heap.size w8 wx) (fun v _ => E.length - (intOf v).toNat)
        case atStart => exact ⟨0, Nat.zero_le _, rfl, hb9⟩
        case round =>
          clear hb9
          obtain ⟨p, hp, rfl, hb10⟩ := hrel
          by_cases hpl : p < E.length
          · have hpl2 : p < E2.length := by omega
            obtain ⟨⟨za, zb, zc⟩, hz⟩ : ∃ z, E[p]? = some z := ⟨_, List.getElem?_eq_getElem hpl⟩
            obtain ⟨⟨ya, yb, yc⟩, hy⟩ : ∃ z, E2[p]? = some z := ⟨_, List.getElem?_eq_getElem hpl2⟩
            obtain ⟨pa6, _, e⟩ := row_some R6' (by omega)
            cases e
            obtain ⟨pb6, _, e⟩ := row_some R7 (by omega)
            cases e
            obtain ⟨t0, t1, t2⟩ := dlVals_at E p _ hz
            obtain ⟨u0, u1, u2⟩ := dlVals_at E2 p _ hy
            have l1 := R6'.lt
            have l2 := R7.lt
            have x0 := (hb10.cell (p := ⟨pa6, p * 3, none⟩) l1).trans (R6'.cell t0)
            have x1 := (hb10.cell (p := ⟨pa6, p * 3 + 1, none⟩) l1).trans (R6'.cell t1)
            have x2 := (hb10.cell (p := ⟨pa6, p * 3 + 2, none⟩) l1).trans (R6'.cell t2)
            have y0 := (hb10.cell (p := ⟨pb6, p * 3, none⟩) l2).trans (R7.cell u0)
            have y1 := (hb10.cell (p := ⟨pb6, p * 3 + 1, none⟩) l2).trans (R7.cell u1)
            have y2 := (hb10.cell (p := ⟨pb6, p * 3 + 2, none⟩) l2).trans (R7.cell u2)
            have m1 := Nat.lt_of_lt_of_le l1 hb10.size
            have m2 := Nat.lt_of_lt_of_le l2 hb10.size
            simp only at x0 x1 x2 y0 y1 y2
            clear t0 t1 t2 u0 u1 u2 R6' R7
            by_cases hs0 : za = ya
            case neg =>
              go_wp2_with fail
              refine wp_region_over (by kernel_rfl) (by kernel_rfl) ?_
              repeat (go_big_quiet_step (fail))
              refine wpQuiet_nil ?_
              rintro _ ⟨x9, rfl⟩
              have g9 := step_below (fun _ => False) T8 (hb10.trans ((over_below wr x9).mono hb10.size))
              generalize over wr x9 = w9 at *
              go_wp2
              go_ret
              exact ⟨false, rfl, T8, P.out.1.trans (g9.mono (fun _ h => h.elim)), P.out.2.step hX hne g9⟩
            by_cases hs1 : zb = yb
            case neg =>
              go_wp2_with fail
              refine wp_region_over (by kernel_rfl) (by kernel_rfl) ?_
              repeat (go_big_quiet_step (fail))
              refine wpQuiet_nil ?_
              rintro _ ⟨x9, rfl⟩
              have g9 := step_below (fun _ => False) T8 (hb10.trans ((over_below wr x9).mono hb10.size))
              generalize over wr x9 = w9 at *
              go_wp2
              go_ret
              exact ⟨false, rfl, T8, P.out.1.trans (g9.mono (fun _ h => h.elim)), P.out.2.step hX hne g9⟩
            by_cases hs2 : zc = yc
            case neg =>
              have hs3 : (zc.toList == yc.toList) = false := by rw [strEq]; exact decide_eq_false hs2
              go_wp2_with fail
              refine wp_region_over (by kernel_rfl) (by kernel_rfl) ?_
              repeat (go_big_quiet_step (fail))
              refine wpQuiet_nil ?_
              rintro _ ⟨x9, rfl⟩
              have g9 := step_below (fun _ => False) T8 (hb10.trans ((over_below wr x9).mono hb10.size))
              generalize over wr x9 = w9 at *
              go_wp2
              go_ret
              exact ⟨false, rfl, T8, P.out.1.trans (g9.mono (fun _ h => h.elim)), P.out.2.step hX hne g9⟩
            subst hs0 hs1 hs2
            go_wp2_with fail
            refine wp_region_over (by kernel_rfl) (by kernel_rfl) ?_
            repeat (go_big_quiet_step (fail))
            refine wpQuiet_nil ?_
            rintro _ ⟨x9, rfl⟩
            have hov := hb10.trans ((over_below wr x9).mono hb10.size)
            generalize over wr x9 = w9 at *
            go_wp2
            exact ⟨⟨p + 1, by omega, by simp, hov⟩, by simp [intOf]; omega⟩
          · have g10 := step_below (fun _ => False) T8 hb10
            have A10 := P.out.2.step hX hne g10
            have s10 := P.out.1.trans (g10.mono (fun _ h => (h.elim : SX ia ib _)))
            clear R6' R7 P g10 hb10
            go_wp2
            exact ⟨⟨k + 1, T8, by omega, by simp, s10, A10⟩, by simp [intOf]; omega⟩
end Go.Proofs.YtockkceclkcgbaaGreatDoor

/- alike: two queues that are alike are told to be so. -/
import Derived.Test.YtockkceclkcgbaaGreatDoorB19
import Derived.Test.YtockkceclkcgbaaGreatDoorB42
import Derived.Test.YtockkceclkcgbaaGreatDoorB44
namespace Go.Proofs.YtockkceclkcgbaaGreatDoor
open Go.RowKit

abbrev Tag.pa : Tag := ⟨28, 0, 0, 0⟩
abbrev Tag.pb : Tag := ⟨29, 0, 0, 0⟩
abbrev Tag.pc : Tag := ⟨30, 0, 0, 0⟩
abbrev Tag.pd : Tag := ⟨31, 0, 0, 0⟩
def SX (ia ib : Nat) (t : Tag) : Prop := XT ia t ∨ XT ib t
theorem sx_tag {ia ib : Nat} {t : Tag} (h : t.c ≠ 5) : ¬ SX ia ib t := by
  rintro (h1 | h1) <;> exact h h1.1
/-- two queues, as alike looks at them -/
structure AL (X : World → (Nat → Tag) → Nat → Nat → MQ → Prop) (w : World) (T : Nat → Tag) (ia ib ba bb bxa bxb : Nat) (ma mb : MQ) (K : Nat) (ga : Option Addr) (gca : Nat) (gb : Option Addr) (gcb : Nat) : Prop where
  xa : X w T ia bxa ma
  xb : X w T ib bxb mb
  ca0 : w.cell? ⟨ba, 0, none⟩ = some (.pointer (some ⟨bxa, 0, none⟩))
  ca7 : w.cell? ⟨ba, 7, none⟩ = some (.slice ga K gca)
  cb0 : w.cell? ⟨bb, 0, none⟩ = some (.pointer (some ⟨bxb, 0, none⟩))
  cb7 : w.cell? ⟨bb, 7, none⟩ = some (.slice gb K gcb)
  la : ba < w.heap.size
  lb : bb < w.heap.size
  ta : ¬ SX ia ib (T ba)
  tb : ¬ SX ia ib (T bb)
variable {X : World → (Nat → Tag) → Nat → Nat → MQ → Prop} {Bm : Int} {w w' : World} {T T' : Nat → Tag} {ia ib ba bb bxa bxb : Nat} {ma mb : MQ} {K : Nat} {ga gb : Option Addr} {gca gcb : Nat}
theorem AL.cells {S : Tag → Prop} (h : AL X w T ia ib ba bb bxa bxb ma mb K ga gca gb gcb) (hs : Step S w T w' T') (hS : ∀ t, S t → SX ia ib t) (ha : X w' T' ia bxa ma) (hb : X w' T' ib bxb mb) : AL X w' T' ia ib ba bb bxa bxb ma mb K ga gca gb gcb := by
  have n1 : ¬ S (T ba) := fun h1 => h.ta (hS _ h1)
  have n2 : ¬ S (T bb) := fun h1 => h.tb (hS _ h1)
  exact ⟨ha, hb, (hs.cell (p := ⟨ba, 0, none⟩) h.la n1).trans h.ca0, (hs.cell (p := ⟨ba, 7, none⟩) h.la n1).trans h.ca7, (hs.cell (p := ⟨bb, 0, none⟩) h.lb n2).trans h.cb0, (hs.cell (p := ⟨bb, 7, none⟩) h.lb n2).trans h.cb7, Nat.lt_of_lt_of_le h.la hs.size, Nat.lt_of_lt_of_le h.lb hs.size, by rw [hs.tag _ h.la]; exact h.ta, by rw [hs.tag _ h.lb]; exact h.tb⟩
theorem AL.step (hX : XC X Bm) (_hne : ia ≠ ib) (h : AL X w T ia ib ba bb bxa bxb ma mb K ga gca gb gcb) (hs : Step (fun _ => False) w T w' T') : AL X w' T' ia ib ba bb bxa bxb ma mb K ga gca gb gcb :=
  h.cells hs (fun _ h => h.elim) (hX.step h.xa hs (fun _ _ h => h)) (hX.step h.xb hs (fun _ _ h => h))
theorem AL.after (hX : XC X Bm) (hne : ia ≠ ib) (h : AL X w T ia ib ba bb bxa bxb ma mb K ga gca gb gcb) (hs : Step (XT ia) w T w' T') (ha : X w' T' ia bxa ma) : AL X w' T' ia ib ba bb bxa bxb ma mb K ga gca gb gcb :=
  h.cells hs (fun _ h => .inl h) ha (hX.step h.xb hs (fun _ h1 h2 => hne (h2.2.symm.trans h1.2)))
theorem AL.afterb (hX : XC X Bm) (hne : ia ≠ ib) (h : AL X w T ia ib ba bb bxa bxb ma mb K ga gca gb gcb) (hs : Step (XT ib) w T w' T') (hb : X w' T' ib bxb mb) : AL X w' T' ia ib ba bb bxa bxb ma mb K ga gca gb gcb :=
  h.cells hs (fun _ h => .inr h) (hX.step h.xa hs (fun _ h1 h2 => hne (h1.2.symm.trans h2.2))) hb
/-- what two queues tell is the same -/
structure Tells (ma mb : MQ) (K : Nat) : Prop where
  floor : mb.floor = ma.floor
  high : mb.bodies.length = ma.bodies.length
  done : ∀ k, k < K → doneL mb (nameB k) = doneL ma (nameB k)
  dead : ∀ k, k < K → deadL mb (nameB k) = deadL ma (nameB k)

attribute [local go_sem] over_cell

set_option maxRecDepth 100000 in
set_option maxHeartbeats 4000000 in
theorem alike_any (hX : XC X Bm) (hne : ia ≠ ib) (hK : K ≤ 6) (hfa : ma.Fit Bm) (hfb : mb.Fit Bm) (hT : Tells ma mb K) (h : AL X w T ia ib ba bb bxa bxb ma mb K ga gca gb gcb) (hdl : ∀ k, k < K → (doneL ma (nameB k)).length ≤ 100000 ∧ (deadL ma (nameB k)).length ≤ 100000) :
    Calls Tryz.prog 36 #[.pointer (some ⟨ba, 0, none⟩), .pointer (some ⟨bb, 0, none⟩)] w fun e w' => e = .returned (.bool true) ∧ ∃ T', Step (SX ia ib) w T w' T' ∧ AL X w' T' ia ib ba bb bxa bxb ma mb K ga gca gb gcb := by
  have hsa := hX.span ia bxa ma w T h.xa hfa
  have ca0 := h.ca0
  have la := h.la
  obtain ⟨fl, hfl⟩ : ∃ fl, ma.floor = fl := ⟨_, rfl⟩
  obtain ⟨hi, hhi⟩ : ∃ hi : Nat, ma.bodies.length = hi := ⟨_, rfl⟩
  have hflb : mb.floor = fl := hT.floor.trans hfl
  have hhib : mb.bodies.length = hi := hT.high.trans hhi
  rw [hfl, hhi] at hsa
  go_enter Tryz.func36, Tryz.ntmps36
  go_wp2_with fail
  refine hsa.mono ?_
  clear hsa
  rintro e w1 ⟨rfl, T1, s1, hx1⟩
  have A1 := h.after hX hne s1 hx1
  have sn1 := step_new w1 T1 (.cells #[.int .i64 fl, .int .i64 hi] 69) .free (fun _ => False)
  have hO1 := blk_new w1 T1 #[.int .i64 fl, .int .i64 hi] 69 .free
  have A2 := A1.step hX hne sn1
  have s02 : Step (SX ia ib) w T _ _ := (s1.mono (fun _ h => .inl h)).trans (sn1.mono (fun _ h => h.elim))
  have hsb := hX.span ib bxb mb _ _ A2.xb hfb
  rw [hflb, hhib] at hsb
  have cb0 := A2.cb0
  have lb := A2.lb
  clear ca0 la h hx1 s1
  go_wp2_with fail
  generalize retag T1 w1.heap.size .free = T2 at *
  generalize w1.alloc (.cells #[.int .i64 fl, .int .i64 (hi : Int)] 69) = w2 at *
  generalize w1.heap.size = o1 at hO1 ⊢
  refine hsb.mono ?_
  clear hsb
  rintro e w3 ⟨rfl, T3, s3, hx3⟩
  have A3 := A2.afterb hX hne s3 hx3
  have hO1' := hO1.step s3 (by simp [XT])
  have sn3 := step_new w3 T3 (.cells #[.int .i64 fl, .int .i64 hi] 69) .free (fun _ => False)
  have hO2 := blk_new w3 T3 #[.int .i64 fl, .int .i64 hi] 69 .free
  have hO1'' := hO1'.step sn3 (fun h => h)
  have A3' := A3.step hX hne sn3
  have s03 : Step (SX ia ib) w T _ _ := (s02.trans (s3.mono (fun _ h => .inr h))).trans (sn3.mono (fun _ h => h.elim))
  clear cb0 lb A1 A2 A3 hx3 s3 sn1 sn3 hO1 hO1' s02
  go_wp2_with fail
  generalize retag T3 w3.heap.size .free = T3 at *
  generalize w3.alloc (.cells #[.int .i64 fl, .int .i64 (hi : Int)] 69) = w3' at *
  generalize w3.heap.size = o2 at hO2 ⊢
  have p0 := hO1''.cell (j := 0) (v := .int .i64 fl) rfl
  have p1 := hO1''.cell (j := 1) (v := .int .i64 hi) rfl
  have q0 := hO2.cell (j := 0) (v := .int .i64 fl) rfl
  have q1 := hO2.cell (j := 1) (v := .int .i64 hi) rfl
  have lp := hO1''.lt
  have lq := hO2.lt
  have ca7 := A3'.ca7
  have cb7 := A3'.cb7
  have la := A3'.la
  have lb := A3'.lb
  refine wp_region_over (by kernel_rfl) (by kernel_rfl) ?_
  repeat (go_big_quiet_step (fail))
  refine wpQuiet_nil ?_
  rintro _ ⟨x4, rfl⟩
  have g4 := step_below (fun _ => False) T3 (over_below w3' x4)
  have A4 := A3'.step hX hne g4
  have s04 := s03.trans (g4.mono (fun _ h => (h.elim : SX ia ib _)))
  clear p0 p1 q0 q1 lp lq ca7 cb7 la lb A3' g4 hO1'' hO2 s03
  generalize over w3' x4 = w4 at *
  go_wp2_with fail
  go_loopw [7] (fun v wr => ∃ (k : Nat) (T' : Nat → Tag), k ≤ K ∧ v = .int .i64 k ∧ Step (SX ia ib) w T wr T' ∧ AL X wr T' ia ib ba bb bxa bxb ma mb K ga gca gb gcb) (fun v _ => K - (intOf v).toNat)
  case atStart => exact ⟨0, T3, Nat.zero_le _, rfl, s04, A4⟩
  case round =>
    clear A4 s04
    obtain ⟨k, T4, hk, rfl, s4, A4⟩ := hrel
    have ca7 := A4.ca7
    have la4 := A4.la
    by_cases hkl : k < K
    case neg =>
      have ek : k = K := by omega
      subst ek
      go_wp2
      go_ret
      exact ⟨rfl, T4, s4, A4⟩
    generalize hw4 : wr = w4 at *
    clear hw4
    have hnm := fun w1 => name_exact k (by omega) w1
    obtain ⟨D, hD⟩ : ∃ D, Hid (doneL ma (nameB k) = D) := ⟨_, hide rfl⟩
    obtain ⟨E, hE⟩ : ∃ E, Hid (deadL ma (nameB k) = E) := ⟨_, hide rfl⟩
    have hd4 : doneL ma (nameB k) = D := hD.out
    have hd5 : doneL mb (nameB k) = D := (hT.done k hkl).trans hD.out
    have hd6 : deadL ma (nameB k) = E := hE.out
    have hd7 : deadL mb (nameB k) = E := (hT.dead k hkl).trans hE.out
    have hdk := hdl k hkl
    rw [hd4, hd6] at hdk
    clear hD hE
    have hc4 : ∀ W, Below w4.heap.size w4 W → Calls Tryz.prog 28 #[.pointer (some ⟨bxa, 0, none⟩), .string (nameB k)] W fun e w' => ∃ ao cap, e = .returned (.tuple #[.slice ao D.length cap, .int .i64 (doneE ma (nameB k))]) ∧ ∃ T', AL X w' T' ia ib ba bb bxa bxb ma mb K ga gca gb gcb ∧ Step (SX ia ib) w4 T4 w' T' ∧ Row w' T' .pa 69 2 (.slice ao D.length cap) D.length (pairVals D) := fun W hW => by
      have g := step_below (fun _ => False) T4 hW
      have hh := hX.done ia bxa ma (nameB k) .pa W T4 (hX.step A4.xa g (fun _ _ h => h)) hfa
      rw [hd4] at hh
      refine hh.mono ?_
      rintro e w' ⟨ao, cap, rfl, T', s', hx', hr'⟩
      exact ⟨ao, cap, rfl, T', (A4.step hX hne (g.mono (fun _ h => h.elim))).after hX hne s' hx', (g.mono (fun _ h => (h.elim : SX ia ib _))).trans (s'.mono (fun _ h => .inl h)), hr'⟩
    have c04 := A4.ca0
    have l04 := A4.la
    go_wp2_with fail
    go_region_held3 (fun w' => w'.cell? ⟨ba, 0, none⟩ = some (.pointer (some ⟨bxa, 0, none⟩))) (go_keep) (first | (go_at_call 35; refine (hnm _).mono ?_; rintro e w5 ⟨rfl, rfl⟩) | (go_at_call 28; refine (hc4 _ ((Below.refl _ _).alloc (Nat.le_refl _) _).drew).mono ?_; clear hc4; rintro e w5 ⟨ao4, cap4, rfl, T5, A5, s5, R4⟩; have k04 := A5.ca0))
    clear c04 l04 k04
    have hc5 : ∀ W, Below w5.heap.size w5 W → Calls Tryz.prog 28 #[.pointer (some ⟨bxb, 0, none⟩), .string (nameB k)] W fun e w' => ∃ ao cap, e = .returned (.tuple #[.slice ao D.length cap, .int .i64 (doneE mb (nameB k))]) ∧ ∃ T', AL X w' T' ia ib ba bb bxa bxb ma mb K ga gca gb gcb ∧ Step (SX ia ib) w5 T5 w' T' ∧ Row w' T' .pb 69 2 (.slice ao D.length cap) D.length (pairVals D) := fun W hW => by
      have g := step_below (fun _ => False) T5 hW
      have hh := hX.done ib bxb mb (nameB k) .pb W T5 (hX.step A5.xb g (fun _ _ h => h)) hfb
      rw [hd5] at hh
      refine hh.mono ?_
      rintro e w' ⟨ao, cap, rfl, T', s', hx', hr'⟩
      exact ⟨ao, cap, rfl, T', (A5.step hX hne (g.mono (fun _ h => h.elim))).afterb hX hne s' hx', (g.mono (fun _ h => (h.elim : SX ia ib _))).trans (s'.mono (fun _ h => .inr h)), hr'⟩
    have c05 := A5.cb0
    have l05 := A5.lb
    go_wp2_with fail
    go_region_held3 (fun w' => w'.cell? ⟨bb, 0, none⟩ = some (.pointer (some ⟨bxb, 0, none⟩))) (go_keep) (first | (go_at_call 35; refine (hnm _).mono ?_; rintro e w5 ⟨rfl, rfl⟩) | (go_at_call 28; refine (hc5 _ ((Below.refl _ _).alloc (Nat.le_refl _) _).drew).mono ?_; clear hc5; rintro e w6 ⟨ao5, cap5, rfl, T6, A6, s6, R5⟩; have k05 := A6.cb0))
    clear c05 l05 k05
    have hc6 : ∀ W, Below w6.heap.size w6 W → Calls Tryz.prog 29 #[.pointer (some ⟨bxa, 0, none⟩), .string (nameB k)] W fun e w' => ∃ ao cap, e = .returned (.tuple #[.slice ao E.length cap, .int .i64 (doneE ma (nameB k))]) ∧ ∃ T', AL X w' T' ia ib ba bb bxa bxb ma mb K ga gca gb gcb ∧ Step (SX ia ib) w6 T6 w' T' ∧ Row w' T' .pc 82 3 (.slice ao E.length cap) E.length (dlVals E) := fun W hW => by
      have g := step_below (fun _ => False) T6 hW
      have hh := hX.dead ia bxa ma (nameB k) .pc W T6 (hX.step A6.xa g (fun _ _ h => h)) hfa
      rw [hd6] at hh
      refine hh.mono ?_
      rintro e w' ⟨ao, cap, rfl, T', s', hx', hr'⟩
      exact ⟨ao, cap, rfl, T', (A6.step hX hne (g.mono (fun _ h => h.elim))).after hX hne s' hx', (g.mono (fun _ h => (h.elim : SX ia ib _))).trans (s'.mono (fun _ h => .inl h)), hr'⟩
    have c06 := A6.ca0
    have l06 := A6.la
    go_wp2_with fail
    go_region_held3 (fun w' => w'.cell? ⟨ba, 0, none⟩ = some (.pointer (some ⟨bxa, 0, none⟩))) (go_keep) (first | (go_at_call 35; refine (hnm _).mono ?_; rintro e w5 ⟨rfl, rfl⟩) | (go_at_call 29; refine (hc6 _ ((Below.refl _ _).alloc (Nat.le_refl _) _).drew).mono ?_; clear hc6; rintro e w7 ⟨ao6, cap6, rfl, T7, A7, s7, R6⟩; have k06 := A7.ca0))
    clear c06 l06 k06
    have hc7 : ∀ W, Below w7.heap.size w7 W → Calls Tryz.prog 29 #[.pointer (some ⟨bxb, 0, none⟩), .string (nameB k)] W fun e w' => ∃ ao cap, e = .returned (.tuple #[.slice ao E.length cap, .int .i64 (doneE mb (nameB k))]) ∧ ∃ T', AL X w' T' ia ib ba bb bxa bxb ma mb K ga gca gb gcb ∧ Step (SX ia ib) w7 T7 w' T' ∧ Row w' T' .pd 82 3 (.slice ao E.length cap) E.length (dlVals E) := fun W hW => by
      have g := step_below (fun _ => False) T7 hW
      have hh := hX.dead ib bxb mb (nameB k) .pd W T7 (hX.step A7.xb g (fun _ _ h => h)) hfb
      rw [hd7] at hh
      refine hh.mono ?_
      rintro e w' ⟨ao, cap, rfl, T', s', hx', hr'⟩
      exact ⟨ao, cap, rfl, T', (A7.step hX hne (g.mono (fun _ h => h.elim))).afterb hX hne s' hx', (g.mono (fun _ h => (h.elim : SX ia ib _))).trans (s'.mono (fun _ h => .inr h)), hr'⟩
    have c07 := A7.cb0
    have l07 := A7.lb
    go_wp2_with fail
    go_region_held3 (fun w' => w'.cell? ⟨bb, 0, none⟩ = some (.pointer (some ⟨bxb, 0, none⟩))) (go_keep) (first | (go_at_call 35; refine (hnm _).mono ?_; rintro e w5 ⟨rfl, rfl⟩) | (go_at_call 29; refine (hc7 _ ((Below.refl _ _).alloc (Nat.le_refl _) _).drew).mono ?_; clear hc7; rintro e w8 ⟨ao7, cap7, rfl, T8, A8, s8, R7⟩; have k07 := A8.cb0))
    clear c07 l07 k07
    have R4' := ((R4.step s6 (sx_tag (by decide))).step s7 (sx_tag (by decide))).step s8 (sx_tag (by decide))
    have R5' := (R5.step s7 (sx_tag (by decide))).step s8 (sx_tag (by decide))
    have R6' := R6.step s8 (sx_tag (by decide))
    have s08 := (((s4.trans s5).trans s6).trans s7).trans s8
    clear R4 R5 R6 s4 s5 s6 s7 s8 A4 A5 A6 A7 hd4 hd5 hd6 hd7 ca7 la4
    go_wp2_with fail
    go_loopw [16] (fun v wx => ∃ q : Nat, q ≤ D.length ∧ v = .int .i64 q ∧ Below w8.heap.size w8 wx) (fun v _ => D.length - (intOf v).toNat)
    case atStart => exact ⟨0, Nat.zero_le _, rfl, Below.refl _ _⟩
    case round =>
      obtain ⟨q, hq, rfl, hb9⟩ := hrel
      by_cases hql : q < D.length
      · obtain ⟨r, hrq⟩ : ∃ r, D[q]? = some r := ⟨_, List.getElem?_eq_getElem hql⟩
        obtain ⟨pa6, _, e⟩ := row_some R4' (by omega)
        cases e
        obtain ⟨pb6, _, e⟩ := row_some R5' (by omega)
        cases e
        obtain ⟨t0, t1⟩ := pairVals_at D q r hrq
        have l1 := R4'.lt
        have l2 := R5'.lt
        have x0 := (hb9.cell (p := ⟨pa6, q * 2, none⟩) l1).trans (R4'.cell t0)
        have x1 := (hb9.cell (p := ⟨pa6, q * 2 + 1, none⟩) l1).trans (R4'.cell t1)
        have y0 := (hb9.cell (p := ⟨pb6, q * 2, none⟩) l2).trans (R5'.cell t0)
        have y1 := (hb9.cell (p := ⟨pb6, q * 2 + 1, none⟩) l2).trans (R5'.cell t1)
        have m1 := Nat.lt_of_lt_of_le l1 hb9.size
        have m2 := Nat.lt_of_lt_of_le l2 hb9.size
        clear t0 t1 R4' R5' R6' R7 A8 s08
        go_wp2_with fail
        refine wp_region_over (by kernel_rfl) (by kernel_rfl) ?_
        repeat (go_big_quiet_step (fail))
        refine wpQuiet_nil ?_
        rintro _ ⟨x9, rfl⟩
        have hov := hb9.trans ((over_below wr x9).mono hb9.size)
        generalize over wr x9 = w9 at *
        go_wp2
        exact ⟨⟨q + 1, by omega, by simp, hov⟩, by simp [intOf]; omega⟩
      · clear R4' R5'
        go_wp2_with fail
        go_loopw [17] (fun v wx => ∃ q : Nat, q ≤ E.length ∧ v = .int .i64 q ∧ Below w8.heap.size w8 wx) (fun v _ => E.length - (intOf v).toNat)
        case atStart => exact ⟨0, Nat.zero_le _, rfl, hb9⟩
        case round =>
          clear hb9
          obtain ⟨p, hp, rfl, hb10⟩ := hrel
          by_cases hpl : p < E.length
          · obtain ⟨z, hz⟩ : ∃ z, E[p]? = some z := ⟨_, List.getElem?_eq_getElem hpl⟩
            obtain ⟨pa6, _, e⟩ := row_some R6' (by omega)
            cases e
            obtain ⟨pb6, _, e⟩ := row_some R7 (by omega)
            cases e
            obtain ⟨t0, t1, t2⟩ := dlVals_at E p z hz
            have l1 := R6'.lt
            have l2 := R7.lt
            have x0 := (hb10.cell (p := ⟨pa6, p * 3, none⟩) l1).trans (R6'.cell t0)
            have x1 := (hb10.cell (p := ⟨pa6, p * 3 + 1, none⟩) l1).trans (R6'.cell t1)
            have x2 := (hb10.cell (p := ⟨pa6, p * 3 + 2, none⟩) l1).trans (R6'.cell t2)
            have y0 := (hb10.cell (p := ⟨pb6, p * 3, none⟩) l2).trans (R7.cell t0)
            have y1 := (hb10.cell (p := ⟨pb6, p * 3 + 1, none⟩) l2).trans (R7.cell t1)
            have y2 := (hb10.cell (p := ⟨pb6, p * 3 + 2, none⟩) l2).trans (R7.cell t2)
            have m1 := Nat.lt_of_lt_of_le l1 hb10.size
            have m2 := Nat.lt_of_lt_of_le l2 hb10.size
            clear t0 t1 t2 R6' R7 A8 s08
            go_wp2_with fail
            refine wp_region_over (by kernel_rfl) (by kernel_rfl) ?_
            repeat (go_big_quiet_step (fail))
            refine wpQuiet_nil ?_
            rintro _ ⟨x9, rfl⟩
            have hov := hb10.trans ((over_below wr x9).mono hb10.size)
            generalize over wr x9 = w9 at *
            go_wp2
            exact ⟨⟨p + 1, by omega, by simp, hov⟩, by simp [intOf]; omega⟩
          · have g10 := step_below (fun _ => False) T8 hb10
            have A10 := A8.step hX hne g10
            have s10 := s08.trans (g10.mono (fun _ h => (h.elim : SX ia ib _)))
            clear R6' R7 A8 s08 g10 hb10
            go_wp2
            exact ⟨⟨k + 1, T8, by omega, by simp, s10, A10⟩, by simp [intOf]; omega⟩

end Go.Proofs.YtockkceclkcgbaaGreatDoor

/- Open of any text; a queue behind a Compact; a queue and the one that its log makes tell the same. -/
namespace Go.Proofs.YtockkceclkcgbaaGreatDoor
open Go.RowKit Go.Maps

theorem CO.step {S : Tag → Prop} {w w' : World} {T T' : Nat → Tag} {i b : Nat} {c : Conf} {co : Core} {vL : Value} {ls : Nat} {lg : Bs} (h : CO w T i b c co vL ls lg) (hs : Step S w T w' T') (hS : ∀ t, XT i t → ¬ S t) : CO w' T' i b c co vL ls lg := by
  obtain ⟨h1, h2, vB, mb, f, hB, hR, hN, hG, hL⟩ := h
  have hq : ∀ r k, ¬ S (.q i r k) := fun r k => hS _ ⟨rfl, rfl⟩
  exact ⟨h1, h2, vB, mb, f, hB.step hs (hq _ _), hR.step hs (hq _ _), hN.step hs (hq _ _), fun k p hp => (hG k p hp).step hs (fun r _ => hq _ _), hL.step hs (hq _ _)⟩
/-- what Open answers -/
def openA (i : Nat) (c : Conf) (w' : World) (T' : Nat → Tag) (e : Ending) : Option (Core × Nat × Bs) → Prop
  | none => e = .returned (.tuple #[.pointer none, .int .i64 2])
  | some (co, s, lg) => ∃ b vL, e = .returned (.tuple #[.pointer (some ⟨b, 0, none⟩), .int .i64 0]) ∧ CO w' T' i b c co vL s lg
theorem xopenA_any (a0 a1 : Addr) (c : Conf) (t : Bs) (i : Nat) (w : World) (T : Nat → Tag) (hg : goodC c = true) (hLd : Laid w T a0 a1) (ht : t.length ≤ 9223372036854775807) :
    Calls Tryz.prog 25 #[.agg c.cells, .string (mkB t)] w fun e w' => ∃ T', Step (XT i) w T w' T' ∧ openA i c w' T' e (openT c t) := by
  refine (open_any c (mkB t) i w T (fun w' T' b => ∃ vL co s lg, openT c t = some (co, s, lg) ∧ CO w' T' i b c co vL s lg) (openT c t = none) (fun b mb w1 T1 hc hs1 hB hN => ?_)).mono ?_
  · refine (restore_any c i b mb t a0 a1 w1 T1 hc hB hN (hLd.step hs1 (by simp [XT])) (fun _ => load_any i b c) ht).mono ?_
    rintro e w2 ⟨T2, s2, hr⟩
    cases ho : openT c t with
    | none => rw [ho] at hr; exact ⟨T2, s2, .inr ⟨rfl, hr⟩⟩
    | some x =>
      obtain ⟨co, s, lg⟩ := x
      rw [ho] at hr
      obtain ⟨rfl, vL, hco⟩ := hr
      exact ⟨T2, s2, .inl ⟨rfl, vL, co, s, lg, rfl, hco⟩⟩
  · rintro e w2 (⟨h, _⟩ | ⟨hc, T2, s2, (⟨b, rfl, vL, co, s, lg, ho, hco⟩ | ⟨ho, rfl⟩)⟩)
    · rw [hg] at h; cases h
    · rw [ho]; exact ⟨T2, s2, b, vL, rfl, hco⟩
    · rw [ho]; exact ⟨T2, s2, rfl⟩

/-! behind a Compact -/
theorem log_compact {m : MQ} (hcok : COk m.c (coreM m)) : LogIs m (compL m.c (coreM m)) (compS m.c (coreM m)) := by
  have hlen := snapQ_len hcok
  have hph := phi_bound hcok
  have hl : (compL m.c (coreM m)).length = 12 + (snapQ (coreM m)).length := by unfold compL; rw [recB_length]; omega
  refine ⟨by have := recS_lt (seedS m.c) 99 (snapQ (coreM m)); simpa [compS] using this, hcok, by rw [hl]; omega, { coreM m with gs := sortG (coreM m) }, ?_, ⟨rfl, rfl, sortG_perm hcok.once⟩⟩
  have h := (told_zero m.c).add (k := 99) (d := snapQ (coreM m)) (q' := { coreM m with gs := sortG (coreM m) }) (by omega) (by
    show loadC m.c (snapQ (coreM m)) = _
    exact load_snap m.c (coreM m) hcok _ (sortG_perm hcok.once))
  simpa [compL, compS] using h

/-! tags that are laid anew -/
theorem XM.move {w : World} {T T' : Nat → Tag} {i b : Nat} {m : MQ} {vL vS : Value} {lg : Bs} (h : XM w T i b m vL vS lg) (hf : ∀ g r k, T g = .q i r k → T' g = .q i r k) : XM w T' i b m vL vS lg := by
  obtain ⟨h1, h2, h3, h4, h5, vB, mb, f, ps, hB, hR, hN, hG, hL⟩ := h
  exact ⟨h1, h2, h3, h4, h5, vB, mb, f, ps, hB.move (fun g => hf g _ _), hR.move (fun g => hf g _ _), hN.move (fun g => hf g _ _), fun k g hg => ⟨(hG k g hg).1.move (fun r g _ => hf g _ _), (hG k g hg).2⟩, hL.move (fun g => hf g _ _)⟩
theorem X.move {w : World} {T T' : Nat → Tag} {i b : Nat} {m : MQ} (h : X w T i b m) (hf : ∀ g r k, T g = .q i r k → T' g = .q i r k) : X w T' i b m := by
  obtain ⟨vL, s, lg, hx, h2⟩ := h
  exact ⟨vL, s, lg, hx.move hf, h2⟩

/-! what is told behind a crash -/
theorem wake_names (m : MQ) (ch : Int) : (wakeM m ch).names = m.names := by simp [MQ.names, wakeM, wakeG, Function.comp_def]
theorem tells_wake {m : MQ} {ch : Int} {K : Nat} (hr : Rels m) (hok : m.Ok) (hsm : m.bodies.length ≤ 400) : Tells m (wakeM m ch) K := by
  have hc := (wake_core (ch := ch) hr hok hsm).2
  have hat : ∀ s, (wakeM m ch).at s = m.at s := fun s => by unfold MQ.at; rw [wake_names]
  have key : ∀ s, doneL (wakeM m ch) s = doneL m s ∧ deadL (wakeM m ch) s = deadL m s := fun s => by
    unfold doneL deadL
    rw [hat s]
    cases m.at s with
    | none => exact ⟨rfl, rfl⟩
    | some k =>
      simp only [wakeM_group]
      cases hg : m.groups[k]? with
      | none => exact ⟨rfl, rfl⟩
      | some g =>
        have h1 := hc g (List.mem_of_getElem? hg)
        have h2 := congrArg CG.done h1
        have h3 := congrArg CG.dead h1
        exact ⟨h2, h3⟩
  exact ⟨rfl, rfl, fun k _ => (key _).1, fun k _ => (key _).2⟩

end Go.Proofs.YtockkceclkcgbaaGreatDoor

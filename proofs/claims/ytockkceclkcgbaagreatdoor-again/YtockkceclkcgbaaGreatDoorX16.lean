/- Again, walked: it returns true and changes nothing that was there. -/
import Derived.Test.YtockkceclkcgbaaGreatDoorX03
import Derived.Test.YtockkceclkcgbaaGreatDoorX15
namespace Go.Proofs.YtockkceclkcgbaaGreatDoor
open Go.RowKit

abbrev Tag.pe : Tag := ⟨32, 0, 0, 0⟩
abbrev Tag.pf : Tag := ⟨33, 0, 0, 0⟩
def S3 (t : Tag) : Prop := XT 0 t ∨ XT 1 t ∨ XT 2 t
theorem s3_tag {t : Tag} (h : t.c ≠ 5) : ¬ S3 t := by rintro (h1 | h1 | h1) <;> exact h h1.1
theorem s3_one {i : Nat} (hi : i < 3) (t : Tag) (h : XT i t) : S3 t := by
  match i, hi with
  | 0, _ => exact .inl h
  | 1, _ => exact .inr (.inl h)
  | 2, _ => exact .inr (.inr h)
/-- the run, and the two queues that were opened of its log -/
structure AG (w : World) (T : Nat → Tag) (b bx b1 b2 gb gc : Nat) (m Q Q2 : MQ) (L : Nat → List Nat) (vL : Value) (su : Nat) (lg : Bs) : Prop where
  x : XM w T 0 bx m vL (.int .u32 su) lg
  run : RunG w T 0 b bx gb gc m (itemsOf m) L
  x1 : X w T 1 b1 Q
  x2 : X w T 2 b2 Q2
theorem xt_ne {i j : Nat} (h : i ≠ j) (t : Tag) (h1 : XT i t) : ¬ XT j t := fun h2 => h (h1.2.symm.trans h2.2)
theorem xt_rt0 {i j : Nat} (t : Tag) (h1 : RT j t) : ¬ XT i t := fun h2 => by
  have := h2.1
  simp [RT] at h1
  omega
section
variable {Bm : Int} {w w' : World} {T T' : Nat → Tag} {b bx b1 b2 gb gc : Nat} {m Q Q2 : MQ} {L : Nat → List Nat} {vL : Value} {su : Nat} {lg : Bs}
theorem AG.step (hX : XC X Bm) (h : AG w T b bx b1 b2 gb gc m Q Q2 L vL su lg) (hs : Step (fun _ => False) w T w' T') : AG w' T' b bx b1 b2 gb gc m Q Q2 L vL su lg :=
  ⟨h.x.step hs (fun _ _ h => h), h.run.step hs (fun _ _ h => h), hX.step h.x1 hs (fun _ _ h => h), hX.step h.x2 hs (fun _ _ h => h)⟩
theorem AG.at0 (hX : XC X Bm) (h : AG w T b bx b1 b2 gb gc m Q Q2 L vL su lg) (hs : Step (XT 0) w T w' T') (hx : XM w' T' 0 bx m vL (.int .u32 su) lg) : AG w' T' b bx b1 b2 gb gc m Q Q2 L vL su lg :=
  ⟨hx, h.run.step hs (fun t h => xt_rt0 t h), hX.step h.x1 hs (xt_ne (by decide)), hX.step h.x2 hs (xt_ne (by decide))⟩
theorem AG.at1 (hX : XC X Bm) {Q' : MQ} (h : AG w T b bx b1 b2 gb gc m Q Q2 L vL su lg) (hs : Step (XT 1) w T w' T') (hx : X w' T' 1 b1 Q') : AG w' T' b bx b1 b2 gb gc m Q' Q2 L vL su lg :=
  ⟨h.x.step hs (xt_ne (by decide)), h.run.step hs (fun t h => xt_rt0 t h), hx, hX.step h.x2 hs (xt_ne (by decide))⟩
theorem AG.at2 (hX : XC X Bm) {Q' : MQ} (h : AG w T b bx b1 b2 gb gc m Q Q2 L vL su lg) (hs : Step (XT 2) w T w' T') (hx : X w' T' 2 b2 Q') : AG w' T' b bx b1 b2 gb gc m Q Q' L vL su lg :=
  ⟨h.x.step hs (xt_ne (by decide)), h.run.step hs (fun t h => xt_rt0 t h), hX.step h.x1 hs (xt_ne (by decide)), hx⟩
end
theorem deadCost_le (l : List Dl) (h : ∀ x ∈ l, x.body.size ≤ 64) : deadCost l ≤ 72 * l.length := by
  induction l with
  | nil => simp [deadCost]
  | cons x r ih =>
    have a := h x (by simp)
    have b := ih (fun y hy => h y (by simp [hy]))
    unfold deadCost at b ⊢
    simp only [List.map_cons, List.sum_cons, List.length_cons]
    omega

theorem keptCost_le (G : Nat) (l : List ByteArray) (h : ∀ x ∈ l, x.size ≤ 64) : keptCost G l ≤ (72 + 4 * G) * l.length := by
  induction l with
  | nil => simp [keptCost]
  | cons x r ih =>
    have a := h x (by simp)
    have b := ih (fun y hy => h y (by simp [hy]))
    unfold keptCost at b ⊢
    simp only [List.map_cons, List.sum_cons, List.length_cons]
    rw [Nat.mul_add]
    omega

theorem told_len2 (m : MQ) (s : ByteArray) {B : Int} (hf : m.Fit B) (hsm : m.bodies.length ≤ 400) : (doneL m s).length ≤ 100000 ∧ (deadL m s).length ≤ 100000 := by
  unfold doneL deadL
  cases m.at s with
  | none => exact ⟨by simp, by simp⟩
  | some k =>
    simp only
    cases hg : m.groups[k]? with
    | none => exact ⟨by simp, by simp⟩
    | some g =>
      have hgm := List.mem_of_getElem? hg
      have h1 := hf.dead hsm g hgm
      have h2 := hf.ok.len g hgm
      have h3 := doneTo_len g.items g.items.length
      simp only [List.length_map]
      exact ⟨by omega, by omega⟩
theorem grpCost_le {m : MQ} : ∀ (l : List MG), (∀ g ∈ l, ∀ x ∈ g.dead.map (deadOf m g), x.body.size ≤ 64) → (∀ g ∈ l, g.dead.length ≤ 4000) → (∀ g ∈ l, g.name.size ≤ 16) → grpCost m l ≤ 300000 * l.length
  | [], _, _, _ => by simp [grpCost]
  | g :: r, h1, h2, h3 => by
    have ih := grpCost_le r (fun x hx => h1 x (by simp [hx])) (fun x hx => h2 x (by simp [hx])) (fun x hx => h3 x (by simp [hx]))
    have a := deadCost_le _ (h1 g (by simp))
    rw [List.length_map] at a
    have b := h2 g (by simp)
    have c := h3 g (by simp)
    unfold grpCost at ih ⊢
    simp only [List.map_cons, List.sum_cons, List.length_cons]
    omega

attribute [local go_sem] over_cell

set_option maxRecDepth 100000 in
set_option maxHeartbeats 16000000 in
theorem kagain_any (a0 a1 : Addr) (l : List Int) (s : List StV) (ao so : Option Addr) (cap scap : Nat) (w : World) (hl : ArgI w ao l) (hs : ArgS w so s) (hlen : l.length ≤ 9223372036854775807) (hsl : s.length ≤ 4398046511104) (hLd : Laid w (fun _ => .old) a0 a1) :
    Calls Tryz.prog 9 #[.slice ao l.length cap, .slice so s.length scap] w fun e w' => e = .returned (.bool true) ∧ Below w.heap.size w w' := by
  have hX := xc 3000000000000000000 (by decide)
  go_enter Tryz.func9, Tryz.ntmps9
  go_wp2_with fail
  refine (played_any (xd a0 a1 3000000000000000000 (by decide)) 0 l s ao so cap scap w (fun _ => .old) hl hs (fun _ _ _ _ _ => rfl) hlen hsl hLd).mono ?_
  rintro e w1 ⟨b, rfl, T1, m, L, s1, ⟨bx, gb, gc, hx, hr, hf, hq, hp⟩, hsg, htl, hmc⟩
  obtain ⟨vL, su, lg, hxm, hlog, hlsd⟩ := hx
  obtain ⟨g0, hg0⟩ : ∃ g, m.groups[0]? = some g := ⟨_, List.getElem?_eq_getElem hp⟩
  have hg0' := hide hg0
  obtain ⟨bo, bc, so4, sc4, lo4, lc4, A⟩ := hr.at hg0
  have hok := hf.ok
  have hcok := hlog.ok
  have hsm := hr.small
  have hfew := hr.few
  have c0 := A.c0
  have c1 := A.c1
  have c2 := A.c2
  have c3 := A.c3
  have c4 := A.c4
  have lb := A.lb
  have f1 : Step (fun t => t ≠ Tag.old) w (fun _ => .old) w1 T1 := s1.mono (fun _ h => ut_old h)
  have gd := step_below (fun _ => False) T1 (Below.refl w1.heap.size w1).drew
  have hlg := xlog_any 0 bx m w1.drew T1 (hxm.step gd (fun _ _ h => h))
  have hdec := dec_log (ch := 0) hxm hlog hok
  have hLd1 := (hLd.step f1 (fun h => h rfl)).step gd (fun h => h)
  have hop := xopenD_any a0 a1 m.c (mkB lg) (wakeM m 0) 1 w1.drew T1 hLd1 hdec
  unfold Conf.cells at hop
  have hk5 : Hid (∀ (w' : World) (T' : Nat → Tag), Step (fun _ => False) w1.drew T1 w' T' → RunAt w' T' 0 b bx gb gc m 0 g0 (itemsOf m 0) (L 0) bo bc so4 sc4 lo4 lc4) := hide (fun w' T' h => (A.step gd (fun _ _ h => h)).step h (fun _ _ h => h))
  have P1 := hide (And.intro hxm (And.intro hlog (And.intro hlsd (And.intro hr (And.intro hf (And.intro hq (And.intro f1 (And.intro gd (And.intro hok (And.intro hcok hLd))))))))))
  clear hl hs hxm hlog hlsd hr hf hq f1 hok hcok hLd hLd1 hdec hsg htl hmc hg0 A gd s1
  go_wp2_with fail
  go_region_held3 (fun w' => w'.cell? ⟨b, 0, none⟩ = some (.pointer (some ⟨bx, 0, none⟩)) ∧ w'.cell? ⟨b, 1, none⟩ = some (.int .i64 m.c.l) ∧ w'.cell? ⟨b, 2, none⟩ = some (.int .i64 m.c.d) ∧ w'.cell? ⟨b, 3, none⟩ = some (.int .i64 m.c.s) ∧ w'.cell? ⟨b, 4, none⟩ = some (.int .i64 m.c.k)) (go_keep) (first
    | (go_at_call 26; refine hlg.mono ?_; clear hlg; rintro e w2 ⟨rfl, rfl⟩)
    | (go_at_call 25; refine hop.mono ?_; clear hop; rintro e w3 ⟨b1, rfl, T3, s3, hx1⟩; have A3 := hk5.out _ _ s3; have k0 := A3.c0; have k1 := A3.c1; have k2 := A3.c2; have k3 := A3.c3; have k4 := A3.c4))
  obtain ⟨hxm, hlog, hlsd, hr, hf, hq, f1, gd, hok, hcok, hLd⟩ := P1.out
  have hxm3 := (hxm.step gd (fun _ _ h => h)).step s3 (fun _ _ h => h)
  have hr3 := (hr.step gd (fun _ _ h => h)).step s3 (fun _ _ h => h)
  have f3 := (f1.trans (gd.mono (fun _ h => (h.elim : _ ≠ Tag.old)))).trans (s3.mono (fun _ h => h.elim))
  have hcm := xcompact_any 0 bx m vL _ lg w3 T3 hxm3 hok hcok
  have lb3 := A3.lb
  clear P1 hk5 hxm hr f1 gd s3 c0 c1 c2 c3 c4 lb k1 k2 k3 k4
  go_wp2_with fail
  refine hcm.mono ?_
  clear hcm
  rintro e w5 ⟨rfl, T5, vL5, s5, hxm5⟩
  have hlog5 := log_compact hcok
  have hx15 := hX.step hx1 s5 (xt_ne (by decide))
  have hr5 := hr3.step s5 (fun t h => xt_rt0 t h)
  have A5 := A3.step s5 (fun _ a c => xt_rt a c)
  have f5 := f3.trans (s5.mono (fun t h => (by rintro rfl; simp [XT] at h : t ≠ Tag.old)))
  have c0 := A5.c0
  have c1 := A5.c1
  have c2 := A5.c2
  have c3 := A5.c3
  have c4 := A5.c4
  have lb := A5.lb
  have gd := step_below (fun _ => False) T5 (Below.refl w5.heap.size w5).drew
  have hclen := compact_len hok hcok
  have hdec := dec_log (ch := 0) hxm5 hlog5 hok
  have hlg := xlog_any 0 bx m w5.drew T5 (hxm5.step gd (fun _ _ h => h))
  have hop := xopenD_any a0 a1 m.c (mkB (compL m.c (coreM m))) (wakeM m 0) 2 w5.drew T5 ((hLd.step f5 (fun h => h rfl)).step gd (fun h => h)) hdec
  unfold Conf.cells at hop
  generalize compL m.c (coreM m) = lg5 at *
  generalize compS m.c (coreM m) = su5 at *
  have hk5 : Hid (∀ (w' : World) (T' : Nat → Tag), Step (fun _ => False) w5.drew T5 w' T' → RunAt w' T' 0 b bx gb gc m 0 g0 (itemsOf m 0) (L 0) bo bc so4 sc4 lo4 lc4) := hide (fun w' T' h => (A5.step gd (fun _ _ h => h)).step h (fun _ _ h => h))
  have P5 := hide (And.intro hxm5 (And.intro hlog5 (And.intro hlsd (And.intro hr5 (And.intro hf (And.intro hq (And.intro f5 (And.intro gd (And.intro hok (And.intro hcok (And.intro hx15 (And.intro hclen hlog))))))))))))
  clear hxm3 hr3 f3 hx1 s5 k0 lb3 A3 hxm5 hlog5 hlog hlsd hr5 hf hq f5 hok hcok hLd hdec hx15 A5 gd hclen
  go_wp2_with fail
  go_region_held3 (fun w' => w'.cell? ⟨b, 0, none⟩ = some (.pointer (some ⟨bx, 0, none⟩)) ∧ w'.cell? ⟨b, 1, none⟩ = some (.int .i64 m.c.l) ∧ w'.cell? ⟨b, 2, none⟩ = some (.int .i64 m.c.d) ∧ w'.cell? ⟨b, 3, none⟩ = some (.int .i64 m.c.s) ∧ w'.cell? ⟨b, 4, none⟩ = some (.int .i64 m.c.k)) (go_keep) (first
    | (go_at_call 26; refine hlg.mono ?_; clear hlg; rintro e w6 ⟨rfl, rfl⟩)
    | (go_at_call 25; refine hop.mono ?_; clear hop; rintro e w7 ⟨b2, rfl, T7, s7, hx2⟩; have A7 := hk5.out _ _ s7; have k0 := A7.c0; have k1 := A7.c1; have k2 := A7.c2; have k3 := A7.c3; have k4 := A7.c4))
  obtain ⟨hxm5, hlog5, hlsd, hr5, hf, hq, f5, gd, hok, hcok, hx15, hclen, hlog⟩ := P5.out
  have G7 : AG w7 T7 b bx b1 b2 gb gc m (wakeM m 0) (wakeM m 0) L vL5 su5 lg5 := ⟨(hxm5.step gd (fun _ _ h => h)).step s7 (fun _ _ h => h), (hr5.step gd (fun _ _ h => h)).step s7 (fun _ _ h => h), hX.step (hX.step hx15 gd (fun _ _ h => h)) s7 (fun _ _ h => h), hx2⟩
  have f7 := (f5.trans (gd.mono (fun _ h => (h.elim : _ ≠ Tag.old)))).trans (s7.mono (fun _ h => h.elim))
  clear P5 hk5 hxm5 hr5 hx15 hx2 f5 gd s7 c0 c1 c2 c3 c4 lb k1 k2 k3 k4
  -- the spans
  have hfw : (wakeM m 0).Fit 3000000000000000000 := fit_wake (hf.mono (by omega))
  have hfm : m.Fit 3000000000000000000 := hf.mono (by omega)
  have hflr := hok.fl
  obtain ⟨fl, hfl⟩ : ∃ fl : Nat, m.floor = fl := ⟨m.floor.toNat, by omega⟩
  obtain ⟨hi, hhi⟩ : ∃ hi : Nat, m.bodies.length = hi := ⟨_, rfl⟩
  have hs1 := hX.span 1 b1 (wakeM m 0) w7 T7 G7.x1 hfw
  rw [show (wakeM m 0).floor = fl from hfl, show (wakeM m 0).bodies.length = hi from hhi] at hs1
  clear k0 A7
  go_wp2_with fail
  refine hs1.mono ?_
  clear hs1
  rintro e w8 ⟨rfl, T8, s8, hx8⟩
  have sn8 := step_new w8 T8 (.cells #[.int .i64 fl, .int .i64 hi] 69) .free (fun _ => False)
  have hO1 := blk_new w8 T8 #[.int .i64 fl, .int .i64 hi] 69 .free
  have G8 := (G7.at1 hX s8 hx8).step hX sn8
  have f8 := (f7.trans (s8.mono (fun t h => (by rintro rfl; simp [XT] at h : t ≠ Tag.old)))).trans (sn8.mono (fun _ h => (h.elim : _ ≠ Tag.old)))
  have hs2 := hX.span 2 b2 (wakeM m 0) _ _ G8.x2 hfw
  rw [show (wakeM m 0).floor = fl from hfl, show (wakeM m 0).bodies.length = hi from hhi] at hs2
  clear G7 f7 s8 sn8 hx8
  go_wp2_with fail
  generalize retag T8 w8.heap.size .free = T8' at *
  generalize w8.alloc (.cells #[.int .i64 (fl : Int), .int .i64 (hi : Int)] 69) = w8' at *
  generalize w8.heap.size = o1 at hO1 ⊢
  refine hs2.mono ?_
  clear hs2
  rintro e w9 ⟨rfl, T9, s9, hx9⟩
  have sn9 := step_new w9 T9 (.cells #[.int .i64 fl, .int .i64 hi] 69) .free (fun _ => False)
  have hO2 := blk_new w9 T9 #[.int .i64 fl, .int .i64 hi] 69 .free
  have hO1' := (hO1.step s9 (by simp [XT])).step sn9 (fun h => h)
  have G9 := (G8.at2 hX s9 hx9).step hX sn9
  have f9 := (f8.trans (s9.mono (fun t h => (by rintro rfl; simp [XT] at h : t ≠ Tag.old)))).trans (sn9.mono (fun _ h => (h.elim : _ ≠ Tag.old)))
  have hs3 := xspan_any 0 bx m _ _ G9.x hok
  rw [hfl, hhi] at hs3
  obtain ⟨_, _, _, _, _, _, A9⟩ := G9.run.at hg0'.out
  have k0 := A9.c0
  have lb := A9.lb
  clear G8 f8 s9 sn9 hx9 hO1 A9
  go_wp2_with fail
  generalize retag T9 w9.heap.size .free = T9' at *
  generalize w9.alloc (.cells #[.int .i64 (fl : Int), .int .i64 (hi : Int)] 69) = w9' at *
  generalize w9.heap.size = o2 at hO2 ⊢
  refine hs3.mono ?_
  clear hs3 k0 lb
  rintro e w10 ⟨rfl, T10, s10, hx10⟩
  have sn10 := step_new w10 T10 (.cells #[.int .i64 fl, .int .i64 hi] 69) .free (fun _ => False)
  have hO3 := blk_new w10 T10 #[.int .i64 fl, .int .i64 hi] 69 .free
  have hO1'' := (hO1'.step s10 (by simp [XT])).step sn10 (fun h => h)
  have hO2' := (hO2.step s10 (by simp [XT])).step sn10 (fun h => h)
  have G10 := (G9.at0 hX s10 hx10).step hX sn10
  have f10 := (f9.trans (s10.mono (fun t h => (by rintro rfl; simp [XT] at h : t ≠ Tag.old)))).trans (sn10.mono (fun _ h => (h.elim : _ ≠ Tag.old)))
  clear G9 f9 s10 sn10 hx10 hO1' hO2
  go_wp2_with fail
  generalize retag T10 w10.heap.size .free = T10' at *
  generalize w10.alloc (.cells #[.int .i64 (fl : Int), .int .i64 (hi : Int)] 69) = w10' at *
  generalize w10.heap.size = o3 at hO3 ⊢
  have u0 := hO3.cell (j := 0) (v := .int .i64 fl) rfl
  have u1 := hO3.cell (j := 1) (v := .int .i64 hi) rfl
  have lu := hO3.lt
  have hG6 : m.groups.length ≤ 6 := hfew
  obtain ⟨Kn, hKn⟩ : ∃ Kn, m.groups.length = Kn := ⟨_, rfl⟩
  have hbl : (m.bodies.drop m.floor.toNat).length = hi - fl := by rw [List.length_drop, hhi, hfl]; simp
  have hkb : ∀ x ∈ m.bodies.drop m.floor.toNat, x.size ≤ 64 := hcok.short
  have hKB : Hid (∀ j : Nat, j < hi - fl → (m.bodies.drop m.floor.toNat)[j]? = m.bodies[fl + j]?) := hide (fun j _ => by rw [List.getElem?_drop, hfl]; simp)
  obtain ⟨KB, hKBe⟩ : ∃ KB, m.bodies.drop m.floor.toNat = KB := ⟨_, rfl⟩
  rw [hKBe] at hbl hkb hKB hclen
  rw [hKn] at hclen hG6
  go_wp2_with fail
  go_loopw [13, 14] (fun u13 u14 wr => ∃ j : Nat, j ≤ hi - fl ∧ u14 = .int .i64 ((fl + j : Nat) : Int) ∧ u13 = .int .i64 ((64 + keptCost Kn (KB.take j) : Nat) : Int) ∧ Below w10'.heap.size w10' wr) (fun _ u14 _ => (hi - intOf u14).toNat)
  case atStart => exact ⟨0, Nat.zero_le _, by simp, by simp [keptCost], Below.refl _ _⟩
  case round =>
    obtain ⟨j, hj, rfl, rfl, hb⟩ := hrel
    have g11 := step_below (fun _ => False) T10' hb
    have G11 := G10.step hX g11
    have hO3' := hO3.step g11 (fun h => h)
    have u0 := hO3'.cell (j := 0) (v := .int .i64 fl) rfl
    have u1 := hO3'.cell (j := 1) (v := .int .i64 hi) rfl
    have lu := hO3'.lt
    obtain ⟨bo5, bc5, _, _, _, _, A11⟩ := G11.run.at hg0'.out
    have c5 := A11.c5
    have c7 := A11.c7
    have lb11 := A11.lb
    rw [hhi] at c5
    rw [hKn] at c7
    have hkc := keptCost_le Kn (KB.take j) (fun x hx => hkb x (List.mem_of_mem_take hx))
    rw [List.length_take] at hkc
    have hkc2 : keptCost Kn (KB.take j) ≤ 96 * 400 := Nat.le_trans hkc (Nat.mul_le_mul (by omega) (by omega))
    clear hkc
    by_cases hjl : j < hi - fl
    · obtain ⟨x, hx⟩ : ∃ x, KB[j]? = some x := ⟨_, List.getElem?_eq_getElem (by omega)⟩
      have hxm2 : m.bodies[fl + j]? = some x := (hKB.out j hjl).symm.trans hx
      have hx64 := hkb x (List.mem_of_getElem? hx)
      have hrow := A11.bod
      rw [hhi] at hrow
      obtain ⟨bg, bcap, e⟩ := row_some hrow (by omega)
      cases e
      have y0 := hrow.cell (j := fl + j) (u := .string x) (by rw [List.getElem?_map, hxm2]; rfl)
      have lbg := hrow.lt
      have hsn := keptCost_snoc (G := Kn) hx
      generalize keptCost Kn (KB.take j) = kc at *
      have hdc : ∀ (z : Nat), ((fl + j : Nat) : Int) = z → True := fun _ _ => trivial
      obtain ⟨z, hz⟩ : ∃ z : Nat, fl + j = z := ⟨_, rfl⟩
      rw [hz] at y0 ⊢
      have hz1 : (z : Int) < hi := by omega
      have hz2 : fl ≤ z := by omega
      clear hdc G11 g11 hO3' A11 hrow hKB hclen
      go_wp2_with fail
      refine wp_region_over (by kernel_rfl) (by kernel_rfl) ?_
      repeat (go_big_quiet_step (fail))
      refine wpQuiet_nil ?_
      rintro _ ⟨x12, rfl⟩
      have hov := hb.trans ((over_below wr x12).mono hb.size)
      generalize over wr x12 = w12 at *
      go_wp2
      exact ⟨⟨j + 1, by omega, by simp; omega, by simp [hsn]; omega, hov⟩, by simp [intOf]; omega⟩
    · have ej : j = hi - fl := by omega
      have htk : KB.take j = KB := List.take_of_length_le (by omega)
      rw [htk] at hkc2 ⊢
      have p0 := (hO1''.step g11 (fun h => h)).cell (j := 0) (v := .int .i64 fl) rfl
      have p1 := (hO1''.step g11 (fun h => h)).cell (j := 1) (v := .int .i64 hi) rfl
      have lp := (hO1''.step g11 (fun h => h)).lt
      have q0 := (hO2'.step g11 (fun h => h)).cell (j := 0) (v := .int .i64 fl) rfl
      have q1 := (hO2'.step g11 (fun h => h)).cell (j := 1) (v := .int .i64 hi) rfl
      have lq := (hO2'.step g11 (fun h => h)).lt
      have f11 := f10.trans (g11.mono (fun _ h => (h.elim : _ ≠ Tag.old)))
      obtain ⟨M, hM⟩ : ∃ M, Hid (64 + keptCost Kn KB = M) := ⟨_, hide rfl⟩
      rw [hM.out] at hclen ⊢
      have hMl : M ≤ 38464 := by rw [← hM.out]; omega
      have hsz : ¬ ((fl + j : Nat) : Int) < hi := by omega
      have hsz2 : decide (((fl + j : Nat) : Int) < hi) = false := decide_eq_false hsz
      have ejz : fl + j = hi := by omega
      rw [ejz] at hsz hsz2 ⊢
      have P11 := hide (And.intro f11 (And.intro G11 (And.intro hclen (And.intro hcok (And.intro hok (And.intro hq hfw))))))
      clear f11 G11 hclen hcok hok hq hfw f10 G10 hO1'' hO2' hO3 hO3' g11 hM hKB hkb htk A11 hb hfm hlog hlog5 hlsd hkc2
      go_wp2_with fail
      obtain ⟨f11, G11, hclen, hcok, hok, hq, hfw⟩ := P11.out
      clear P11 p0 p1 q0 q1 u0 u1 lp lq lu c5 c7 lb11
      generalize hwr : wr = w11 at *
      clear hwr
      go_loopw [13, 15] (fun u13 u15 wx => ∃ (k : Nat) (T' : Nat → Tag) (Q : MQ), k ≤ Kn ∧ u13 = .int .i64 ((M + grpCost m (m.groups.take k) : Nat) : Int) ∧ u15 = .int .i64 k ∧ Step S3 w11 T10' wx T' ∧ Served (wakeM m 0) Q k ∧ Q.Fit 3000000000000000000 ∧ AG wx T' b bx b1 b2 gb gc m Q Q L vL5 su5 lg5) (fun _ u15 _ => Kn - (intOf u15).toNat)
      case atStart => exact ⟨0, T10', wakeM m 0, Nat.zero_le _, by simp [grpCost], rfl, Step.refl _ _ _, served_zero _, hfw, G11⟩
      case round =>
        obtain ⟨k, T21, Q, hk, rfl, rfl, s21, hsv, hfQ, G21⟩ := hrel
        generalize hw21 : wr = w21 at *
        clear hw21
        obtain ⟨c7, lb21⟩ := G21.run.len
        rw [hKn] at c7
        by_cases hkl : k < Kn
        case neg =>
          have ek : k = Kn := by omega
          have hall : m.groups.take k = m.groups := List.take_of_length_le (by omega)
          rw [hall]
          have hlg := xlog_any 0 bx m w21 T21 G21.x
          obtain ⟨_, _, _, _, _, _, A21⟩ := G21.run.at hg0'.out
          have c0 := A21.c0
          have f21 := f11.trans (s21.mono (fun t h => (by rintro rfl; exact s3_tag (by decide) h : t ≠ Tag.old)))
          have hbf : Below w.heap.size w w21 := ⟨f21.os, f21.tape, f21.output, f21.size, fun k hk => f21.block k hk (fun h => h rfl)⟩
          have hml : (mkB lg5).size = lg5.length := mkB_size lg5
          have hfin : ((mkB lg5).size : Int) ≤ ((M + grpCost m m.groups : Nat) : Int) := by rw [hml]; omega
          have hfd : decide (((mkB lg5).size : Int) ≤ ((M + grpCost m m.groups : Nat) : Int)) = true := decide_eq_true hfin
          obtain ⟨Z, hZ⟩ : ∃ Z : Nat, M + grpCost m m.groups = Z := ⟨_, rfl⟩
          rw [hZ] at hfin hfd ⊢
          clear A21 G21 G11 f11 f21 hsv hfQ hclen hcok hok hq hfw s21 hall hml
          go_wp2_with fail
          refine hlg.mono ?_
          clear hlg
          rintro e w22 ⟨rfl, rfl⟩
          go_wp2
          go_ret
          exact ⟨by simp, hbf⟩
        obtain ⟨g, hg⟩ : ∃ g, m.groups[k]? = some g := ⟨_, List.getElem?_eq_getElem (by omega)⟩
        have hgm := List.mem_of_getElem? hg
        have hgn : g.name = nameB k := hq.named k g hg
        have hgw : (wakeM m 0).groups[k]? = some (wakeG g) := by rw [wakeM_group, hg]; rfl
        have haw : (wakeM m 0).at (nameB k) = some k := by
          unfold MQ.at
          rw [wake_names]
          exact at_name hq.named (by omega) hg
        obtain ⟨hserv, hUe, hDe, hEq⟩ := served_next hsv hgw (by rw [show (wakeG g).name = nameB k from hgn]; exact haw)
        rw [show (wakeG g).name = nameB k from hgn] at hserv hUe hDe hEq
        have hEl : deadL Q (nameB k) = g.dead.map (deadOf m g) := by
          rw [hEq]
          exact congrArg CG.dead ((wake_core (ch := 0) G21.x.rels hok hsm).2 g hgm)
        have hfit' := fit_recv hfQ (nameB k) 32
        obtain ⟨E, hEc⟩ : ∃ E, g.dead.map (deadOf m g) = E := ⟨_, rfl⟩
        rw [hEc] at hEl
        have hbQ : Q.bodies.length ≤ 400 := by rw [hsv.bodies]; exact hsm
        have hle := told_len2 Q (nameB k) hfQ hbQ
        rw [hEl] at hle
        obtain ⟨D, hDl⟩ : ∃ D, doneL Q (nameB k) = D := ⟨_, rfl⟩
        rw [hDl] at hle
        have hUb : (recvL Q (nameB k) 32).length ≤ 32 := by
          have hQg : Q.groups[k]? = some (wakeG g) := (hsv.rest k (Nat.le_refl _)).trans hgw
          have hQa : Q.at (nameB k) = some k := by unfold MQ.at; rw [hsv.names]; exact haw
          rw [(recvM_at (n := 32) hQa hQg (by decide) (by decide)).2.1]
          have := out_all (m := Q) (g := wakeG g) (n := 32) (by decide)
          omega
        obtain ⟨U, hUl⟩ : ∃ U, recvL Q (nameB k) 32 = U := ⟨_, rfl⟩
        rw [hUl] at hUb
        have hEb : ∀ x ∈ E, x.body.size ≤ 64 := fun x hx => by
          have hgk := hcok.grp (g.name, coreG m g) (List.mem_map.2 ⟨g, hgm, rfl⟩)
          exact (hgk.dead x (by rw [← hEc] at hx; exact hx)).2.2.1
        have hcost' := grpCost_snoc (m := m) hg
        rw [hEc, hgn] at hcost'
        have hgc := grpCost_le (m := m) (m.groups.take k) (fun g hg x hx => ((hcok.grp (g.name, coreG m g) (List.mem_map.2 ⟨g, List.mem_of_mem_take hg, rfl⟩)).dead x hx).2.2.1) (fun g hg => hf.dead hsm g (List.mem_of_mem_take hg)) (fun g hg => G21.x.short g.name (List.mem_map.2 ⟨g, List.mem_of_mem_take hg, rfl⟩))
        rw [List.length_take] at hgc
        obtain ⟨_, _, _, _, _, _, A21⟩ := G21.run.at hg
        have d0 := A21.d0
        rw [hgn] at d0
        have lg21 := A21.lg
        have hM0l : M + grpCost m (m.groups.take k) ≤ 2000000 := by omega
        obtain ⟨M0, hM0⟩ : ∃ M0, M + grpCost m (m.groups.take k) = M0 := ⟨_, rfl⟩
        replace hcost' : Hid (M + grpCost m (m.groups.take (k + 1)) = M0 + (32 + (nameB k).size + deadCost E)) := hide (by rw [hcost', ← hM0]; omega)
        rw [hM0] at hM0l ⊢
        have hnk : (nameB k).size ≤ 16 := by rw [← hgn]; exact G21.x.short g.name (List.mem_map.2 ⟨g, hgm, rfl⟩)
        have P21 := hide (And.intro f11 (And.intro hclen (And.intro hcok (And.intro hok (And.intro hq (And.intro hfw hf))))))
        clear f11 G11 hclen hcok hok hq hfw hf hM0 hgc hEq hEc hgw haw hgm hsv hg A21 hgn
        have hc21 := hX.done 1 b1 Q (nameB k) .pa w21 T21 G21.x1 hfQ
        rw [hDe, hDl] at hc21
        go_wp2_with fail
        refine hc21.mono ?_
        clear hc21
        rintro e w22 ⟨ao21, cap21, rfl, T22, s22, hx22, R21⟩
        have G22 := G21.at1 hX s22 hx22
        have hc22 := hX.done 2 b2 Q (nameB k) .pb w22 T22 G22.x2 hfQ
        rw [hDe, hDl] at hc22
        go_wp2_with fail
        refine hc22.mono ?_
        clear hc22
        rintro e w23 ⟨ao22, cap22, rfl, T23, s23, hx23, R22⟩
        have G23 := G22.at2 hX s23 hx23
        have hc23 := hX.dead 1 b1 Q (nameB k) .pc w23 T23 G23.x1 hfQ
        rw [hDe, hEl] at hc23
        go_wp2_with fail
        refine hc23.mono ?_
        clear hc23
        rintro e w24 ⟨ao23, cap23, rfl, T24, s24, hx24, R23⟩
        have G24 := G23.at1 hX s24 hx24
        have hc24 := hX.dead 2 b2 Q (nameB k) .pd w24 T24 G24.x2 hfQ
        rw [hDe, hEl] at hc24
        go_wp2_with fail
        refine hc24.mono ?_
        clear hc24
        rintro e w25 ⟨ao24, cap24, rfl, T25, s25, hx25, R24⟩
        have G25 := G24.at2 hX s25 hx25
        have hc25 := hX.recv 1 b1 Q (nameB k) 32 .pe w25 T25 G25.x1 hfQ
        rw [hUe, hUl] at hc25
        go_wp2_with fail
        refine hc25.mono ?_
        clear hc25
        rintro e w26 ⟨ao25, cap25, rfl, T26, s26, hx26, R25⟩
        have G26 := G25.at1 hX s26 hx26
        have hc26 := hX.recv 2 b2 Q (nameB k) 32 .pf w26 T26 G26.x2 hfQ
        rw [hUe, hUl] at hc26
        go_wp2_with fail
        refine hc26.mono ?_
        clear hc26
        rintro e w27 ⟨ao26, cap26, rfl, T27, s27, hx27, R26⟩
        have G27 := G26.at2 hX s27 hx27
        have RD := ((((R21.step s23 (by simp [XT])).step s24 (by simp [XT])).step s25 (by simp [XT])).step s26 (by simp [XT])).step s27 (by simp [XT])
        have RG := (((R22.step s24 (by simp [XT])).step s25 (by simp [XT])).step s26 (by simp [XT])).step s27 (by simp [XT])
        have RE := ((R23.step s25 (by simp [XT])).step s26 (by simp [XT])).step s27 (by simp [XT])
        have RF := (R24.step s26 (by simp [XT])).step s27 (by simp [XT])
        have RU := R25.step s27 (by simp [XT])
        have RV := R26
        have s08 : Step S3 w11 T10' w27 T27 := (((((s21.trans (s22.mono (s3_one (by decide)))).trans (s23.mono (s3_one (by decide)))).trans (s24.mono (s3_one (by decide)))).trans (s25.mono (s3_one (by decide)))).trans (s26.mono (s3_one (by decide)))).trans (s27.mono (s3_one (by decide)))
        have G8 := G27
        clear R21 R22 R23 R24 R25 R26 s21 s22 s23 s24 s25 s26 s27 G21 G22 G23 G24 G25 G26 G27 hx22 hx23 hx24 hx25 hx26 hx27 c7 lb21 d0 lg21 hfQ hDe hDl hEl hUe hUl
        generalize w27 = w8 at *
        generalize T27 = T8 at *
        generalize recvM Q (nameB k) 32 = Q' at *
        go_wp2_with fail
        go_loopw [13, 30] (fun u13 u30 wx => ∃ q : Nat, q ≤ E.length ∧ u30 = .int .i64 q ∧ u13 = .int .i64 ((M0 + 32 + (nameB k).size + deadCost (E.take q) : Nat) : Int) ∧ Below w8.heap.size w8 wx) (fun _ v _ => E.length - (intOf v).toNat)
        case atStart => exact ⟨0, Nat.zero_le _, rfl, by simp [deadCost], Below.refl _ _⟩
        case round =>
          obtain ⟨q, hq, rfl, rfl, hb⟩ := hrel
          by_cases hql : q < E.length
          · obtain ⟨r, hrq⟩ : ∃ r, E[q]? = some r := ⟨_, List.getElem?_eq_getElem hql⟩
            obtain ⟨pa6, _, e⟩ := row_some RE (by omega)
            cases e
            obtain ⟨t0, t1, t2⟩ := dlVals_at E q r hrq
            have l1 := RE.lt
            have x2 := (hb.cell (p := ⟨pa6, q * 3 + 2, none⟩) l1).trans (RE.cell t2)
            have m1 := Nat.lt_of_lt_of_le l1 hb.size
            have hsn := deadCost_snoc hrq
            have hrb := hEb r (List.mem_of_getElem? hrq)
            have hdc := deadCost_le (E.take q) (fun x hx => hEb x (List.mem_of_mem_take hx))
            rw [List.length_take] at hdc
            generalize deadCost (E.take q) = dc at *
            clear t0 t1 t2 RD RG RE RF RU RV G8
            go_wp2
            exact ⟨⟨q + 1, by omega, by simp, by simp [hsn]; omega, hb⟩, by simp [intOf]; omega⟩
          · have eq : q = E.length := by omega
            have hz1 : ¬ (q : Int) < E.length := by omega
            have htk : deadCost (E.take q) = deadCost E := by rw [eq, List.take_length]
            rw [htk]
            clear htk
            go_wp2_with fail
            go_loopw [31] (fun v wx => ∃ q : Nat, q ≤ D.length ∧ v = .int .i64 q ∧ Below w8.heap.size w8 wx) (fun v _ => D.length - (intOf v).toNat)
            case atStart => exact ⟨0, Nat.zero_le _, rfl, hb⟩
            case round =>
              clear hb
              obtain ⟨q, hq, rfl, hb⟩ := hrel
              by_cases hql : q < D.length
              · obtain ⟨r, hrq⟩ : ∃ r, D[q]? = some r := ⟨_, List.getElem?_eq_getElem hql⟩
                obtain ⟨pa6, _, e⟩ := row_some RD (by omega)
                cases e
                obtain ⟨pb6, _, e⟩ := row_some RG (by omega)
                cases e
                obtain ⟨t0, t1⟩ := pairVals_at D q r hrq
                have l1 := RD.lt
                have l2 := RG.lt
                have x0 := (hb.cell (p := ⟨pa6, q * 2, none⟩) l1).trans (RD.cell t0)
                have y0 := (hb.cell (p := ⟨pb6, q * 2, none⟩) l2).trans (RG.cell t0)
                have x1 := (hb.cell (p := ⟨pa6, q * 2 + 1, none⟩) l1).trans (RD.cell t1)
                have y1 := (hb.cell (p := ⟨pb6, q * 2 + 1, none⟩) l2).trans (RG.cell t1)
                have m1 := Nat.lt_of_lt_of_le l1 hb.size
                have m2 := Nat.lt_of_lt_of_le l2 hb.size
                clear t0 t1 RD RG G8
                go_wp2_with fail
                refine wp_region_over (by kernel_rfl) (by kernel_rfl) ?_
                repeat (go_big_quiet_step (fail))
                refine wpQuiet_nil ?_
                rintro _ ⟨x9, rfl⟩
                have hov := hb.trans ((over_below wr x9).mono hb.size)
                generalize over wr x9 = w9 at *
                go_wp2
                exact ⟨⟨q + 1, by omega, by simp, hov⟩, by simp [intOf]; omega⟩
              · clear RD RG
                go_wp2_with fail
                go_loopw [32] (fun v wx => ∃ q : Nat, q ≤ E.length ∧ v = .int .i64 q ∧ Below w8.heap.size w8 wx) (fun v _ => E.length - (intOf v).toNat)
                case atStart => exact ⟨0, Nat.zero_le _, rfl, hb⟩
                case round =>
                  clear hb
                  obtain ⟨q, hq, rfl, hb⟩ := hrel
                  by_cases hql : q < E.length
                  · obtain ⟨r, hrq⟩ : ∃ r, E[q]? = some r := ⟨_, List.getElem?_eq_getElem hql⟩
                    obtain ⟨pa6, _, e⟩ := row_some RE (by omega)
                    cases e
                    obtain ⟨pb6, _, e⟩ := row_some RF (by omega)
                    cases e
                    obtain ⟨t0, t1, t2⟩ := dlVals_at E q r hrq
                    have l1 := RE.lt
                    have l2 := RF.lt
                    have x0 := (hb.cell (p := ⟨pa6, q * 3, none⟩) l1).trans (RE.cell t0)
                    have y0 := (hb.cell (p := ⟨pb6, q * 3, none⟩) l2).trans (RF.cell t0)
                    have x1 := (hb.cell (p := ⟨pa6, q * 3 + 1, none⟩) l1).trans (RE.cell t1)
                    have y1 := (hb.cell (p := ⟨pb6, q * 3 + 1, none⟩) l2).trans (RF.cell t1)
                    have x2 := (hb.cell (p := ⟨pa6, q * 3 + 2, none⟩) l1).trans (RE.cell t2)
                    have y2 := (hb.cell (p := ⟨pb6, q * 3 + 2, none⟩) l2).trans (RF.cell t2)
                    have m1 := Nat.lt_of_lt_of_le l1 hb.size
                    have m2 := Nat.lt_of_lt_of_le l2 hb.size
                    clear t0 t1 t2 RE RF G8
                    go_wp2_with fail
                    refine wp_region_over (by kernel_rfl) (by kernel_rfl) ?_
                    repeat (go_big_quiet_step (fail))
                    refine wpQuiet_nil ?_
                    rintro _ ⟨x9, rfl⟩
                    have hov := hb.trans ((over_below wr x9).mono hb.size)
                    generalize over wr x9 = w9 at *
                    go_wp2
                    exact ⟨⟨q + 1, by omega, by simp, hov⟩, by simp [intOf]; omega⟩
                  · clear RE RF
                    go_wp2_with fail
                    go_loopw [33] (fun v wx => ∃ q : Nat, q ≤ U.length ∧ v = .int .i64 q ∧ Below w8.heap.size w8 wx) (fun v _ => U.length - (intOf v).toNat)
                    case atStart => exact ⟨0, Nat.zero_le _, rfl, hb⟩
                    case round =>
                      clear hb
                      obtain ⟨q, hq, rfl, hb⟩ := hrel
                      by_cases hql : q < U.length
                      · obtain ⟨r, hrq⟩ : ∃ r, U[q]? = some r := ⟨_, List.getElem?_eq_getElem hql⟩
                        obtain ⟨pa6, _, e⟩ := row_some RU (by omega)
                        cases e
                        obtain ⟨pb6, _, e⟩ := row_some RV (by omega)
                        cases e
                        obtain ⟨t0, t1, t2⟩ := dlVals_at U q r hrq
                        have l1 := RU.lt
                        have l2 := RV.lt
                        have x0 := (hb.cell (p := ⟨pa6, q * 3, none⟩) l1).trans (RU.cell t0)
                        have y0 := (hb.cell (p := ⟨pb6, q * 3, none⟩) l2).trans (RV.cell t0)
                        have x1 := (hb.cell (p := ⟨pa6, q * 3 + 1, none⟩) l1).trans (RU.cell t1)
                        have y1 := (hb.cell (p := ⟨pb6, q * 3 + 1, none⟩) l2).trans (RV.cell t1)
                        have x2 := (hb.cell (p := ⟨pa6, q * 3 + 2, none⟩) l1).trans (RU.cell t2)
                        have y2 := (hb.cell (p := ⟨pb6, q * 3 + 2, none⟩) l2).trans (RV.cell t2)
                        have m1 := Nat.lt_of_lt_of_le l1 hb.size
                        have m2 := Nat.lt_of_lt_of_le l2 hb.size
                        clear t0 t1 t2 RU RV G8
                        go_wp2_with fail
                        refine wp_region_over (by kernel_rfl) (by kernel_rfl) ?_
                        repeat (go_big_quiet_step (fail))
                        refine wpQuiet_nil ?_
                        rintro _ ⟨x9, rfl⟩
                        have hov := hb.trans ((over_below wr x9).mono hb.size)
                        generalize over wr x9 = w9 at *
                        go_wp2
                        exact ⟨⟨q + 1, by omega, by simp, hov⟩, by simp [intOf]; omega⟩
                      · clear RU RV
                        have g10 := step_below (fun _ => False) T8 hb
                        have G10 := G8.step hX g10
                        have s10 := s08.trans (g10.mono (fun _ h => (h.elim : S3 _)))
                        have h9 := hcost'.out
                        clear G8 s08 g10 hb P21 hEb
                        go_wp2
                        exact ⟨⟨k + 1, T8, Q', by omega, by simp; omega, by simp, s10, hserv, hfit', G10⟩, by simp [intOf]; omega⟩

end Go.Proofs.YtockkceclkcgbaaGreatDoor

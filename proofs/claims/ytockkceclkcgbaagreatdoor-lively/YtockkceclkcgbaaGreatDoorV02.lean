/- Lively, walked: it returns true and changes nothing that was there. -/
import Derived.Test.YtockkceclkcgbaaGreatDoorT44
import Derived.Test.YtockkceclkcgbaaGreatDoorT49
import Derived.Test.YtockkceclkcgbaaGreatDoorV01
namespace Go.Proofs.YtockkceclkcgbaaGreatDoor
open Go.RowKit

/-- Lively's run at group k: all groups ahead of it are done, all behind it are free. -/
structure Lv (B : Int) (w : World) (T : Nat → Tag) (b bx gb gc : Nat) (m : MQ) (L : Nat → List Nat) (k K N : Nat) (P : MG → Prop) : Prop where
  x : X w T 0 bx m
  run : RunG w T 0 b bx gb gc m (itemsOf m) L
  fit : m.Fit B
  nice : NiceQ m L
  seg : Seg m
  len : m.groups.length = K
  bod : m.bodies.length = N
  past : ∀ j g, m.groups[j]? = some g → j < k → AllDone m g
  cur : ∀ g, m.groups[k]? = some g → P g
  later : ∀ j g, m.groups[j]? = some g → k < j → FreeG m g
variable {B : Int} {w : World} {T : Nat → Tag} {b bx gb gc : Nat} {m : MQ} {L : Nat → List Nat} {k K N : Nat} {P : MG → Prop}
theorem Lv.step {w' : World} (h : Lv B w T b bx gb gc m L k K N P) (hs : Step (fun _ => False) w T w' T) : Lv B w' T b bx gb gc m L k K N P :=
  ⟨h.x.step hs (fun _ _ h => h), h.run.step hs (fun _ _ h => h), h.fit, h.nice, h.seg, h.len, h.bod, h.past, h.cur, h.later⟩
theorem Lv.mono {P' : MG → Prop} (h : Lv B w T b bx gb gc m L k K N P) (hP : ∀ g, m.groups[k]? = some g → P g → P' g) : Lv B w T b bx gb gc m L k K N P' :=
  ⟨h.x, h.run, h.fit, h.nice, h.seg, h.len, h.bod, h.past, fun g hg => hP g hg (h.cur g hg), h.later⟩
theorem Lv.next (h : Lv B w T b bx gb gc m L k K N (fun g => AllDone m g)) : Lv B w T b bx gb gc m L (k + 1) K N (fun g => FreeG m g) := by
  refine ⟨h.x, h.run, h.fit, h.nice, h.seg, h.len, h.bod, fun j g hg hj => ?_, fun g hg => h.later (k + 1) g hg (by omega), fun j g hg hj => h.later j g hg (by omega)⟩
  rcases Nat.lt_or_eq_of_le (Nat.le_of_lt_succ hj) with hlt | rfl
  · exact h.past j g hg hlt
  · exact h.cur g hg
theorem Lv.recv {w' : World} {T' : Nat → Tag} {g : MG} (h : Lv B w T b bx gb gc m L k K N P) (hg : m.groups[k]? = some g) (hx : X w' T' 0 bx (m.setG k (recvAll m g 32))) (hr : RunG w' T' 0 b bx gb gc (m.setG k (recvAll m g 32)) (itemsOf (m.setG k (recvAll m g 32))) (updF L k (L k ++ offs (recvAll m g 32).out))) :
    Lv B w' T' b bx gb gc (m.setG k (recvAll m g 32)) (updF L k (L k ++ offs (recvAll m g 32).out)) k K N (fun g1 => g1.items = (recvAll m g 32).items ∧ g1.start = g.start) := by
  have hat := at_name h.nice.named h.run.few hg
  have eM := (recvM_at (n := 32) hat hg (by decide) (by decide)).1
  have hf' : (m.setG k (recvAll m g 32)).Fit B := by have := fit_recv h.fit (nameB k) 32; rw [eM] at this; exact this
  refine ⟨hx, hr, hf', nice_recv h.nice h.fit hg, seg_same h.seg rfl rfl, by rw [setG_glen]; exact h.len, h.bod, fun j g1 h1 hj => ?_, fun g1 h1 => ?_, fun j g1 h1 hj => ?_⟩
  · rw [setG_group, Option.map_eq_some_iff] at h1
    obtain ⟨g0, h0, rfl⟩ := h1
    rw [if_neg (by omega)]
    exact h.past j g0 h0 hj
  · rw [setG_group, hg] at h1
    simp at h1
    subst h1
    exact ⟨rfl, rfl⟩
  · rw [setG_group, Option.map_eq_some_iff] at h1
    obtain ⟨g0, h0, rfl⟩ := h1
    rw [if_neg (by omega)]
    exact h.later j g0 h0 hj
theorem Lv.ack {w' : World} {T' : Nat → Tag} {g : MG} {j c : Nat} (h : Lv B w T b bx gb gc m L k K N P) (hg : m.groups[k]? = some g) (hj : j < (L k).length) (hl : Left m.time g.items ((L k).drop j)) (hc : c ≤ cnt g.items) (hx : X w' T' 0 bx (rackM m k g (L k) j)) (hr : RunG w' T' 0 b bx gb gc (rackM m k g (L k) j) (itemsOf (rackM m k g (L k) j)) L) (hf : (rackM m k g (L k) j).Fit B) (hn : NiceQ (rackM m k g (L k) j) L) :
    Lv B w' T' b bx gb gc (rackM m k g (L k) j) L k K N (fun g1 => Left (rackM m k g (L k) j).time g1.items ((L k).drop (j + 1)) ∧ c ≤ cnt g1.items ∧ (∀ x, g.items[(L k).getD j 0]? = some x → ¬ 0 < x.done → m.time < x.till → c + 1 ≤ cnt g1.items)) := by
  have hlast := (h.nice.grp k g hg).last
  have hlen := h.fit.ok.len g (List.mem_of_getElem? hg)
  obtain ⟨g', e1, e2, e3, e4, e5, e6, e7, e8, e9, e10, e11, e12⟩ := rack_items (m := m) (k := k) (g := g) (l := L k) (j := j) hg hl hj (fun n hn => by rw [hlen]; exact (hlast n hn).1)
  have back : ∀ i g1, i ≠ k → (rackM m k g (L k) j).groups[i]? = some g1 → m.groups[i]? = some g1 := fun i g1 hi h1 => by
    have hlt := (List.getElem?_eq_some_iff.1 h1).1
    rw [e11] at hlt
    obtain ⟨g0, h0⟩ : ∃ g, m.groups[i]? = some g := ⟨_, List.getElem?_eq_getElem hlt⟩
    have := e12 i g0 hi h0
    rw [h1] at this
    cases this
    exact h0
  refine ⟨hx, hr, hf, hn, seg_same h.seg e9 e8, by rw [e11]; exact h.len, by rw [e10]; exact h.bod, fun i g1 h1 hi => ?_, fun g1 h1 => ?_, fun i g1 h1 hi => ?_⟩
  · have := h.past i g1 (back i g1 (by omega) h1) hi
    intro v x hv ha hb
    rw [e9] at ha
    exact this v x hv ha hb
  · rw [e1] at h1
    cases h1
    refine ⟨by rw [e7]; exact e4, by omega, fun x hx hd ht => ?_⟩
    have := e6 x hx hd ht
    omega
  · have := h.later i g1 (back i g1 (by omega) h1) hi
    intro v x hv hd
    rw [e7]
    exact this v x hv hd

/-- behind a Receive that delivered from place bf on, all up to place j acked, t rounds done -/
def AckI (time : Int) (l : List Nat) (bf j t : Nat) (g1 : MG) : Prop := Left time g1.items (l.drop j) ∧ t ≤ cnt g1.items ∧ (bf < j → t + 1 ≤ cnt g1.items) ∧ (j = bf → ∃ x, g1.items[l.getD j 0]? = some x ∧ ¬ 0 < x.done ∧ time < x.till)
theorem nice_len {g : MG} (hn : NiceQ m L) (hg : m.groups[k]? = some g) (hok : m.Ok) (h4 : m.bodies.length ≤ 400) : (L k).length ≤ 4000 := by
  have hG := hn.grp k g hg
  have h1 := tsum_le m.c.d g.items (fun x hx => by
    obtain ⟨n, hx⟩ := List.getElem?_of_mem hx
    exact (hG.items.tries n x hx).2)
  have h2 := hok.len g (List.mem_of_getElem? hg)
  have h3 := good_all hok.good
  rw [hG.sum]
  have h5 : g.items.length * m.c.d.toNat ≤ 400 * 10 := Nat.mul_le_mul (by omega) (by omega)
  omega

attribute [local go_sem] over_cell

set_option maxRecDepth 100000 in
set_option maxHeartbeats 16000000 in
theorem klively_any (a0 a1 : Addr) (l : List Int) (s : List StV) (ao so : Option Addr) (cap scap : Nat) (w : World) (hl : ArgI w ao l) (hs : ArgS w so s) (hlen : l.length ≤ 9223372036854775807) (hsl : s.length ≤ 4398046511104) (hLd : Laid w (fun _ => .old) a0 a1) :
    Calls Tryz.prog 8 #[.slice ao l.length cap, .slice so s.length scap] w fun e w' => e = .returned (.bool true) ∧ Below w.heap.size w w' := by
  have hX := xc 3000000000000000000 (by decide)
  go_enter Tryz.func8, Tryz.ntmps8
  go_wp2_with fail
  refine (played_any (xd a0 a1 3000000000000000000 (by decide)) 0 l s ao so cap scap w (fun _ => .old) hl hs (fun _ _ => rfl) hlen hsl hLd).mono ?_
  rintro e w1 ⟨b, rfl, T1, m1, L1, s1, p1, hsg, htl⟩
  clear hLd hl hs
  obtain ⟨B, hB⟩ : ∃ B : Int, Hid (B = 60000 * s.length + 60000) := ⟨_, hide rfl⟩
  have hBm : B ≤ 3000000000000000000 := by rw [hB.out]; omega
  have htk := ptick_any hX (by omega) (by omega) 0 b m1 L1 60000 w1 T1 p1 (by decide) (by decide)
  rw [← hB.out] at htk
  go_wp2_with fail
  refine htk.mono ?_
  clear htk
  rintro e w2 ⟨rfl, T2, s2, p2⟩
  have eM : tickM m1 60000 = { m1 with time := m1.time + 60000 } := rfl
  have hfree : ∀ j g, (tickM m1 60000).groups[j]? = some g → FreeG (tickM m1 60000) g := fun j g hg v x hx _ => htl g (List.mem_of_getElem? hg) x (List.mem_of_getElem? hx)
  have hsg2 : Seg (tickM m1 60000) := seg_same hsg rfl rfl
  clear htl hsg p1 eM
  generalize tickM m1 60000 = m2 at *
  obtain ⟨bx, gb, gc, hx2, hr2, hf2, hn2, hp2⟩ := p2
  obtain ⟨K, hK⟩ : ∃ K, m2.groups.length = K := ⟨_, rfl⟩
  obtain ⟨N, hN⟩ : ∃ N, m2.bodies.length = N := ⟨_, rfl⟩
  have hK6 : K ≤ 6 := by rw [← hK]; exact hr2.few
  have hN4 : N ≤ 400 := by rw [← hN]; exact hr2.small
  have hKp : 0 < K := by rw [← hK]; exact hp2
  have S0 : Lv B w2 T2 b bx gb gc m2 L1 0 K N (fun g => FreeG m2 g) := ⟨hx2, hr2, hf2, hn2, hsg2, hK, hN, fun j g _ hj => absurd hj (by omega), fun g hg => hfree 0 g hg, fun j g hg _ => hfree j g hg⟩
  have f2 := s1.trans s2
  clear hx2 hr2 hf2 hn2 hsg2 hfree hp2 s1 s2 hK hN
  go_wp2_with fail
  go_loopw [6] (fun v wr => ∃ (k : Nat) (T' : Nat → Tag) (m : MQ) (L : Nat → List Nat), k ≤ K ∧ v = .int .i64 k ∧ Step (UT 0) w (fun _ => .old) wr T' ∧ Lv B wr T' b bx gb gc m L k K N (fun g => FreeG m g)) (fun v _ => K - (intOf v).toNat)
  case atStart => exact ⟨0, T2, m2, L1, Nat.zero_le _, rfl, f2, S0⟩
  case round =>
    obtain ⟨k, T3, m3, L3, hkK, rfl, f3, S3⟩ := hrel
    clear S0 f2
    obtain ⟨c7, lb⟩ := S3.run.len
    rw [S3.len] at c7
    by_cases hkl : k < K
    · obtain ⟨g, hg⟩ : ∃ g, m3.groups[k]? = some g := ⟨_, List.getElem?_eq_getElem (by rw [S3.len]; exact hkl)⟩
      obtain ⟨bo, bc, so4, sc4, lo4, lc4, A⟩ := S3.run.at hg
      have c5 := A.c5
      rw [S3.bod] at c5
      have lg := A.lg
      have ne := A.ne
      clear A
      go_wp2_with fail
      clear c5 lg c7 lb
      go_loopw [8] (fun v wr => ∃ (t : Nat) (T' : Nat → Tag) (m : MQ) (L : Nat → List Nat), t ≤ N ∧ v = .int .i64 ((N - t : Nat) : Int) ∧ Step (UT 0) w (fun _ => .old) wr T' ∧ Lv B wr T' b bx gb gc m L k K N (fun g => FreeG m g ∧ t ≤ cnt g.items)) (fun v _ => (intOf v).toNat)
      case atStart => exact ⟨0, T3, m3, L3, Nat.zero_le _, by simp, f3, S3.mono (fun g _ h => ⟨h, Nat.zero_le _⟩)⟩
      case round =>
        clear S3 f3 hg g
        obtain ⟨t, T3, m3, L3, htN, rfl, f3, S3⟩ := hrel
        by_cases htl : t < N
        · obtain ⟨g, hg⟩ : ∃ g, m3.groups[k]? = some g := ⟨_, List.getElem?_eq_getElem (by rw [S3.len]; exact hkl)⟩
          obtain ⟨hfree, hcnt⟩ := S3.cur g hg
          obtain ⟨bo, bc, so4, sc4, lo4, lc4, A⟩ := S3.run.at hg
          have d3 := A.d3
          have lg := A.lg
          have lb := A.lb
          clear A
          have hlg := S3.fit.ok.len g (List.mem_of_getElem? hg)
          have hc1 := (good_all S3.fit.ok.good).1.1
          have hrc := rrecv_any hX hBm 0 b bx gb gc m3 L3 k g 32 wr T3 S3.x S3.fit S3.run S3.nice hg (by decide) (by decide)
          have hbig := nice_len S3.nice hg S3.fit.ok S3.run.small
          go_wp2_with fail
          refine hrc.mono ?_
          clear hrc
          rintro e w5 ⟨rfl, T5, s5, hx5, hr5⟩
          have S5 := S3.recv hg hx5 hr5
          have hleft := left_recv (n := 32) hfree
          have hnone := fun (ho : (recvAll m3 g 32).out = []) (v : Nat) (x : It) hx h2 h3 => recv_none (n := 32) hlg (by decide) hfree ho (v := v) (x := x) hx h2 h3
          have hfirst := fun (d : Dl) (r : List Dl) (ho : (recvAll m3 g 32).out = d :: r) => recv_leased (n := 32) hlg (d := d) (by rw [ho]; simp)
          have hcr : t ≤ cnt (recvAll m3 g 32).items := Nat.le_trans hcnt cnt_recv
          have f5 := f3.trans s5
          generalize hR : recvAll m3 g 32 = R at *
          clear hx5 hr5 s5 S3 f3 d3 lg lb
          have hg5 : ∃ g5, (m3.setG k R).groups[k]? = some g5 := ⟨_, List.getElem?_eq_getElem (by rw [S5.len]; exact hkl)⟩
          obtain ⟨g5, hg5⟩ := hg5
          obtain ⟨hi5, hst5⟩ := S5.cur g5 hg5
          obtain ⟨bo5, bc5, so5, sc5, lo5, lc5, A5⟩ := S5.run.at hg5
          have d35 := A5.d3
          have lg5 := A5.lg
          have lb5 := A5.lb
          have c10 := A5.c10
          have hbig5 := nice_len S5.nice hg5 S5.fit.ok S5.run.small
          rw [updF_same, List.length_append] at d35 hbig5
          have holn : (offs R.out).length = R.out.length := by simp [offs]
          rw [holn] at d35 hbig5
          clear A5
          by_cases hout : R.out.length = 0
          · have ho : R.out = [] := List.length_eq_zero_iff.1 hout
            have S6 : Lv B w5 T5 b bx gb gc (m3.setG k R) (updF L3 k (L3 k ++ offs R.out)) k K N (fun g => AllDone (m3.setG k R) g) := S5.mono (fun g1 hg1 h => by
              intro v x hx h2 h3
              rw [h.1] at hx
              rw [h.2] at h3
              exact hnone ho v x hx h2 h3)
            rw [hout] at d35 ⊢
            clear S5 hnone hfirst hleft hcr hi5 hst5 hg5 hR hfree
            go_wp2_with fail
            clear d35 lg5 lb5 c10
            generalize hmm : m3.setG k R = m3' at *
            generalize hll : updF L3 k (L3 k ++ offs R.out) = L3' at *
            clear hmm hll
            generalize hww : w5 = wr' at *
            clear hww
            obtain ⟨g, hg⟩ : ∃ g, m3'.groups[k]? = some g := ⟨_, List.getElem?_eq_getElem (by rw [S6.len]; exact hkl)⟩
            have hall := S6.cur g hg
            obtain ⟨bo3, bc3, so3, sc3, lo3, lc3, A3⟩ := S6.run.at hg
            have lb3 := A3.lb
            have lg3 := A3.lg
            have c53 := A3.c5
            have c63 := A3.c6
            have d13 := A3.d1
            have hst := S6.fit.ok.start g (List.mem_of_getElem? hg)
            have hfl := S6.fit.ok.fl
            have hlen := S6.fit.ok.len g (List.mem_of_getElem? hg)
            have hsmall := A3.n4
            have hN := S6.bod
            rw [hN] at c53
            have hdone : ∀ v : Nat, v < N → m3'.floor ≤ v → g.start ≤ v → ∃ gi sc x, so3 = some ⟨gi, 0, none⟩ ∧ g.items[v]? = some x ∧ 0 < x.done ∧ sc = sc3 ∧ wr'.cell? ⟨gi, v * 4 + 1, none⟩ = some (.bool true) ∧ gi < wr'.heap.size ∧ wr'.cell? ⟨gb, k * 4 + 2, none⟩ = some (.slice (some ⟨gi, 0, none⟩) N sc3) := fun v hv h1 h2 => by
              obtain ⟨x, hx⟩ : ∃ x, g.items[v]? = some x := ⟨_, List.getElem?_eq_getElem (by omega)⟩
              have hd := hall v x hx h1 h2
              have hsee := A3.see
              obtain ⟨gi, _, e⟩ := row_some hsee (by rw [hN]; omega)
              cases e
              have t1 := hsee.cell (seenVals_at _ v x (by rw [itemsOf_at hg]; exact hx)).2.1
              rw [decide_eq_true hd] at t1
              exact ⟨gi, sc3, x, rfl, hx, hd, rfl, t1, hsee.lt, by rw [← hN]; exact A3.d2⟩
            clear A3 hall
            obtain ⟨st, hst2⟩ : ∃ st : Nat, g.start = st := ⟨g.start.toNat, by omega⟩
            obtain ⟨fl, hfl2⟩ : ∃ fl : Nat, m3'.floor = fl := ⟨m3'.floor.toNat, by omega⟩
            rw [hst2] at d13 hst hdone
            rw [hfl2] at c63 hfl hdone
            have P3 := hide S6
            clear S6 hg
            go_wp2_with fail
            refine wp_region_over (by kernel_rfl) (by kernel_rfl) ?_
            repeat (go_big_quiet_step (fail))
            refine wpQuiet_nil ?_
            rintro _ ⟨x4, rfl⟩
            have hov : Below wr'.heap.size wr' (over wr' x4) := over_below wr' x4
            have gov := step_below (fun _ => False) T5 hov
            have P4 := P3.out.step gov
            have c54 := (hov.cell (p := ⟨b, 5, none⟩) lb3).trans c53
            have hdone4 : ∀ v : Nat, v < N → (fl : Int) ≤ v → (st : Int) ≤ v → ∃ gi, (over wr' x4).cell? ⟨gi, v * 4 + 1, none⟩ = some (.bool true) ∧ gi < (over wr' x4).heap.size ∧ (over wr' x4).cell? ⟨gb, k * 4 + 2, none⟩ = some (.slice (some ⟨gi, 0, none⟩) N sc3) := fun v hv h1 h2 => by
              obtain ⟨gi, _, _, _, _, _, _, t1, t2, t3⟩ := hdone v hv h1 h2
              exact ⟨gi, (hov.cell (p := ⟨gi, v * 4 + 1, none⟩) t2).trans t1, Nat.lt_of_lt_of_le t2 hov.size, (hov.cell (p := ⟨gb, k * 4 + 2, none⟩) lg3).trans t3⟩
            have lb4 := Nat.lt_of_lt_of_le lb3 hov.size
            have lg4 := Nat.lt_of_lt_of_le lg3 hov.size
            have f4 := f5.trans (gov.mono (fun _ h => h.elim))
            clear hdone c53 c63 d13 P3 gov hov lb3 lg3
            generalize over wr' x4 = w4 at *
            go_wp2_with fail
            all_goals
              go_loopw [12] (fun v wq => ∃ (n : Nat), v = .int .i64 n ∧ (fl : Int) ≤ n ∧ (st : Int) ≤ n ∧ n ≤ N ∧ wq = w4) (fun v _ => N - (intOf v).toNat)
              case atStart => first | exact ⟨st, rfl, by omega, by omega, by omega, rfl⟩ | exact ⟨fl, rfl, by omega, by omega, by omega, rfl⟩
              case round =>
                obtain ⟨n, rfl, hn1, hn2, hn3, rfl⟩ := hrel
                by_cases hlt4 : n < N
                · obtain ⟨gi, t1, t2, t3⟩ := hdone4 n hlt4 hn1 hn2
                  clear hdone4
                  go_wp2
                  exact ⟨⟨n + 1, by simp, by omega, by omega, by omega, trivial⟩, by simp [intOf]; omega⟩
                · have e : n = N := by omega
                  subst e
                  have P5 := hide (P4.next)
                  clear P4 hdone4
                  go_wp2
                  exact ⟨⟨k + 1, T5, m3', L3', by omega, by simp, f4, P5.out⟩, by simp [intOf]; omega⟩
          · have hL5 : (updF L3 k (L3 k ++ offs R.out)) k = L3 k ++ offs R.out := updF_same _ _ _
            have S6 : Lv B w5 T5 b bx gb gc (m3.setG k R) (updF L3 k (L3 k ++ offs R.out)) k K N (AckI (m3.setG k R).time ((updF L3 k (L3 k ++ offs R.out)) k) (L3 k).length (L3 k).length t) := S5.mono (fun g1 hg1 h => by
              unfold AckI
              rw [h.1, hL5]
              refine ⟨?_, hcr, fun h => absurd h (by omega), fun _ => ?_⟩
              · rw [List.drop_left]
                exact hleft
              · cases hro : R.out with
                | nil => rw [hro] at hout; simp at hout
                | cons d r =>
                  obtain ⟨v, x, h1, h2, h3, h4⟩ := hfirst d r hro
                  refine ⟨x, ?_, h3, ?_⟩
                  · have e : (L3 k ++ offs (d :: r)).getD (L3 k).length 0 = v := by
                      rw [List.getD_eq_getElem?_getD, List.getElem?_append_right (Nat.le_refl _)]
                      simp [offs, h1]
                    rw [e]
                    exact h2
                  · show m3.time < x.till
                    rw [h4]
                    omega)
            have hlen5 : ((updF L3 k (L3 k ++ offs R.out)) k).length = (L3 k).length + R.out.length := by rw [hL5, List.length_append, holn]
            clear S5 hnone hfirst hleft hcr hi5 hst5 hg5 hR hfree hL5 holn
            generalize m3.setG k R = m6 at *
            generalize updF L3 k (L3 k ++ offs R.out) = L6 at *
            generalize (L3 k).length = bf at *
            generalize R.out.length = on at *
            have hob : ((on : Int) == 0) = false := by simp; omega
            have hob2 : ¬ (on : Int) = 0 := by omega
            have hob3 : decide ((on : Int) = 0) = false := decide_eq_false hob2
            go_wp2_with fail
            clear d35 lg5 lb5 c10
            go_loopw [11] (fun v wq => ∃ (j : Nat) (T' : Nat → Tag) (m : MQ), bf ≤ j ∧ j ≤ bf + on ∧ v = .int .i64 j ∧ Step (UT 0) w (fun _ => .old) wq T' ∧ Lv B wq T' b bx gb gc m L6 k K N (AckI m.time (L6 k) bf j t)) (fun v _ => bf + on - (intOf v).toNat)
            case atStart => exact ⟨bf, T5, m6, Nat.le_refl _, by omega, rfl, f5, S6⟩
            case round =>
              obtain ⟨j, T7, m7, hj1, hj2, rfl, f7, S7⟩ := hrel
              clear S6 f5
              obtain ⟨g7, hg7⟩ : ∃ g, m7.groups[k]? = some g := ⟨_, List.getElem?_eq_getElem (by rw [S7.len]; exact hkl)⟩
              have cur7 := hide (S7.cur g7 hg7)
              obtain ⟨bo7, bc7, so7, sc7, lo7, lc7, A7⟩ := S7.run.at hg7
              have d37 := A7.d3
              have lg7 := A7.lg
              have lb7 := A7.lb
              rw [hlen5] at d37
              clear A7
              by_cases hjl : j < bf + on
              · have hak := rack_any hX hBm 0 b bx gb gc m7 L6 k g7 j wr T7 S7.x S7.fit S7.run S7.nice hg7 (by omega) (by omega)
                go_wp2_with fail
                refine hak.mono ?_
                clear hak
                rintro e w8 ⟨rfl, T8, s8, hx8, hr8, hf8, hn8⟩
                have f8 := f7.trans s8
                have S8 : Lv B w8 T8 b bx gb gc (rackM m7 k g7 (L6 k) j) L6 k K N (AckI (rackM m7 k g7 (L6 k) j).time (L6 k) bf (j + 1) t) := by
                  obtain ⟨l7, c7, p7, q7⟩ := cur7.out
                  by_cases hjb : j = bf
                  · refine (S7.ack hg7 (by rw [hlen5]; exact hjl) l7 c7 hx8 hr8 hf8 hn8).mono (fun g1 _ h => ⟨h.1, h.2.1, fun _ => ?_, fun h => absurd h (by omega)⟩)
                    obtain ⟨x, h1, h2, h3⟩ := q7 hjb
                    exact h.2.2 x h1 h2 h3
                  · refine (S7.ack hg7 (by rw [hlen5]; exact hjl) l7 (p7 (by omega)) hx8 hr8 hf8 hn8).mono (fun g1 _ h => ⟨h.1, by have := h.2.1; omega, fun _ => h.2.1, fun h => absurd h (by omega)⟩)
                clear hx8 hr8 hf8 hn8 s8 S7 f7 cur7 d37 lg7 lb7 hg7
                generalize rackM m7 k g7 (L6 k) j = m8 at *
                go_wp2
                exact ⟨⟨j + 1, T8, m8, by omega, by omega, by simp, f8, S8⟩, by simp [intOf]; omega⟩
              · have S8 : Lv B wr T7 b bx gb gc m7 L6 k K N (fun g => FreeG m7 g ∧ t + 1 ≤ cnt g.items) := S7.mono (fun g1 _ h => by
                  refine ⟨fun v x hx hd => ?_, h.2.2.1 (by omega)⟩
                  obtain ⟨h1, h2⟩ := h.1 v x hx hd
                  rw [List.drop_eq_nil_of_le (by omega)] at h2
                  rcases h2 with h2 | h2
                  · exact ⟨h2, h1⟩
                  · cases h2)
                have hnt : ((N - t : Nat) : Int) - 1 = ((N - (t + 1) : Nat) : Int) := by omega
                clear S7 cur7 hg7
                go_wp2
                exact ⟨⟨t + 1, T7, m7, L6, by omega, by simp, f7, S8⟩, by simp [intOf]; omega⟩
        · obtain rfl : t = N := by omega
          have S6 : Lv B wr T3 b bx gb gc m3 L3 k K t (fun g => AllDone m3 g) := S3.mono (fun g hg h => by
            have hlg := S3.fit.ok.len g (List.mem_of_getElem? hg)
            rw [S3.bod] at hlg
            have hle := cnt_le g.items
            intro v x hx _ _
            exact cnt_full g.items (by have := h.2; omega) x (List.mem_of_getElem? hx))
          clear S3
          go_wp2_with fail
          obtain ⟨g, hg⟩ : ∃ g, m3.groups[k]? = some g := ⟨_, List.getElem?_eq_getElem (by rw [S6.len]; exact hkl)⟩
          have hall := S6.cur g hg
          obtain ⟨bo3, bc3, so3, sc3, lo3, lc3, A3⟩ := S6.run.at hg
          have lb3 := A3.lb
          have lg3 := A3.lg
          have c53 := A3.c5
          have c63 := A3.c6
          have d13 := A3.d1
          have hst := S6.fit.ok.start g (List.mem_of_getElem? hg)
          have hfl := S6.fit.ok.fl
          have hlen := S6.fit.ok.len g (List.mem_of_getElem? hg)
          have hsmall := A3.n4
          have hN := S6.bod
          rw [hN] at c53
          have hdone : ∀ v : Nat, v < t → m3.floor ≤ v → g.start ≤ v → ∃ gi sc x, so3 = some ⟨gi, 0, none⟩ ∧ g.items[v]? = some x ∧ 0 < x.done ∧ sc = sc3 ∧ wr.cell? ⟨gi, v * 4 + 1, none⟩ = some (.bool true) ∧ gi < wr.heap.size ∧ wr.cell? ⟨gb, k * 4 + 2, none⟩ = some (.slice (some ⟨gi, 0, none⟩) t sc3) := fun v hv h1 h2 => by
            obtain ⟨x, hx⟩ : ∃ x, g.items[v]? = some x := ⟨_, List.getElem?_eq_getElem (by omega)⟩
            have hd := hall v x hx h1 h2
            have hsee := A3.see
            obtain ⟨gi, _, e⟩ := row_some hsee (by rw [hN]; omega)
            cases e
            have t1 := hsee.cell (seenVals_at _ v x (by rw [itemsOf_at hg]; exact hx)).2.1
            rw [decide_eq_true hd] at t1
            exact ⟨gi, sc3, x, rfl, hx, hd, rfl, t1, hsee.lt, by rw [← hN]; exact A3.d2⟩
          clear A3 hall
          obtain ⟨st, hst2⟩ : ∃ st : Nat, g.start = st := ⟨g.start.toNat, by omega⟩
          obtain ⟨fl, hfl2⟩ : ∃ fl : Nat, m3.floor = fl := ⟨m3.floor.toNat, by omega⟩
          rw [hst2] at d13 hst hdone
          rw [hfl2] at c63 hfl hdone
          have P3 := hide S6
          clear S6 hg
          go_wp2_with fail
          refine wp_region_over (by kernel_rfl) (by kernel_rfl) ?_
          repeat (go_big_quiet_step (fail))
          refine wpQuiet_nil ?_
          rintro _ ⟨x4, rfl⟩
          have hov : Below wr.heap.size wr (over wr x4) := over_below wr x4
          have gov := step_below (fun _ => False) T3 hov
          have P4 := P3.out.step gov
          have c54 := (hov.cell (p := ⟨b, 5, none⟩) lb3).trans c53
          have hdone4 : ∀ v : Nat, v < t → (fl : Int) ≤ v → (st : Int) ≤ v → ∃ gi, (over wr x4).cell? ⟨gi, v * 4 + 1, none⟩ = some (.bool true) ∧ gi < (over wr x4).heap.size ∧ (over wr x4).cell? ⟨gb, k * 4 + 2, none⟩ = some (.slice (some ⟨gi, 0, none⟩) t sc3) := fun v hv h1 h2 => by
            obtain ⟨gi, _, _, _, _, _, _, t1, t2, t3⟩ := hdone v hv h1 h2
            exact ⟨gi, (hov.cell (p := ⟨gi, v * 4 + 1, none⟩) t2).trans t1, Nat.lt_of_lt_of_le t2 hov.size, (hov.cell (p := ⟨gb, k * 4 + 2, none⟩) lg3).trans t3⟩
          have lb4 := Nat.lt_of_lt_of_le lb3 hov.size
          have lg4 := Nat.lt_of_lt_of_le lg3 hov.size
          have f4 := f3.trans (gov.mono (fun _ h => h.elim))
          clear hdone c53 c63 d13 P3 gov hov lb3 lg3
          generalize over wr x4 = w4 at *
          go_wp2_with fail
          all_goals
            go_loopw [12] (fun v wq => ∃ (n : Nat), v = .int .i64 n ∧ (fl : Int) ≤ n ∧ (st : Int) ≤ n ∧ n ≤ t ∧ wq = w4) (fun v _ => t - (intOf v).toNat)
            case atStart => first | exact ⟨st, rfl, by omega, by omega, by omega, rfl⟩ | exact ⟨fl, rfl, by omega, by omega, by omega, rfl⟩
            case round =>
              obtain ⟨n, rfl, hn1, hn2, hn3, rfl⟩ := hrel
              by_cases hlt4 : n < t
              · obtain ⟨gi, t1, t2, t3⟩ := hdone4 n hlt4 hn1 hn2
                clear hdone4
                go_wp2
                exact ⟨⟨n + 1, by simp, by omega, by omega, by omega, trivial⟩, by simp [intOf]; omega⟩
              · have e : n = t := by omega
                subst e
                have P5 := hide (P4.next)
                clear P4 hdone4
                go_wp2
                exact ⟨⟨k + 1, T3, m3, L3, by omega, by simp, f4, P5.out⟩, by simp [intOf]; omega⟩
    · have S6 := S3
      obtain rfl : k = K := by omega
      have hmark : ∀ g ∈ m3.groups, markOf g = m3.bodies.length := fun g hg => by
        obtain ⟨j, hj⟩ := List.getElem?_of_mem hg
        have hjl := (List.getElem?_eq_some_iff.1 hj).1
        rw [S3.len] at hjl
        exact mark_full (S3.fit.ok.len g hg) (S3.fit.ok.start g hg) (S3.past j g hj hjl) (S3.nice.grp j g hj).items.low
      have hfin := retain_full hmark (by rw [S3.len]; exact hKp) (good_seg S3.fit.ok.good).1
      have hrt := rretain_any hX hBm 0 b bx gb gc m3 L3 wr T3 S3.x S3.fit S3.run S3.nice S3.seg (by rw [S3.len]; exact hKp)
      have hfr := fit_retain S3.fit
      have hcc : (retainM m3).c = m3.c := by unfold retainM; cases retainB m3 <;> rfl
      have hbb : (retainM m3).bodies = m3.bodies := by unfold retainM; cases retainB m3 <;> rfl
      have hgl : (retainM m3).groups.length = k := by rw [retainM_ns.1]; exact S3.len
      rw [← hbb, ← hcc] at hfin
      clear S3 S6 hmark hcc hbb
      generalize retainM m3 = m4 at *
      go_wp2_with fail
      refine hrt.mono ?_
      clear hrt
      rintro e w5 ⟨rfl, T5, s5, hx5, hr5⟩
      obtain ⟨g5, hg5⟩ : ∃ g, m4.groups[0]? = some g := ⟨_, List.getElem?_eq_getElem (by rw [hgl]; exact hKp)⟩
      obtain ⟨bo5, bc5, so5, sc5, lo5, lc5, A5⟩ := hr5.at hg5
      have hsp := hX.span 0 bx m4 w5 T5 hx5 (hfr.mono hBm)
      have f5 := f3.trans s5
      have c05 := A5.c0
      have lb5 := A5.lb
      clear c7 lb
      go_wp2_with fail
      refine hsp.mono ?_
      clear hsp
      rintro e w6 ⟨rfl, T6, s6, hx6⟩
      have hsz := A5.n4
      have hfl4 := hfr.ok.fl
      have A6 := A5.step s6 (fun _ a c => xt_rt a c)
      have sn := step_new w6 T6 (.cells #[.int .i64 m4.floor, .int .i64 m4.bodies.length] 69) .free (fun _ => False)
      have hO := blk_new w6 T6 #[.int .i64 m4.floor, .int .i64 m4.bodies.length] 69 .free
      have A7 := A6.step sn (fun _ _ h => h)
      have f7 := (f5.trans (s6.mono (fun _ h => .inl h))).trans (sn.mono (fun _ h => (h.elim : UT 0 _)))
      have hb7 := below_old f7
      clear A5 A6 hr5 hx5 hx6 s5 s6 f3 f5 c05 lb5 hg5
      go_wp2_with fail
      have q0 := hO.cell (j := 0) rfl
      have q1 := hO.cell (j := 1) rfl
      simp only [List.getElem_toArray, List.getElem_cons_succ, List.getElem_cons_zero] at q0 q1
      have lO := hO.lt
      have c9 := A7.c9
      have c10 := A7.c10
      have c11 := A7.c11
      have c3 := A7.c3
      have lb7 := A7.lb
      clear A7 hO f7 sn
      generalize w6.alloc (.cells #[.int .i64 m4.floor, .int .i64 (m4.bodies.length : Int)] 69) = w7 at *
      generalize w6.heap.size = ob at *
      have hdec : decide ((m4.bodies.length : Int) - m4.floor < m4.c.s) = true := decide_eq_true hfin
      refine wp_region_over (by kernel_rfl) (by kernel_rfl) ?_
      repeat (go_big_quiet_step (fail))
      refine wpQuiet_nil ?_
      rintro _ ⟨x8, rfl⟩
      have hb8 := hb7.trans ((over_below w7 x8).mono hb7.size)
      go_wp2
      go_ret
      exact ⟨rfl, hb8⟩

end Go.Proofs.YtockkceclkcgbaaGreatDoor

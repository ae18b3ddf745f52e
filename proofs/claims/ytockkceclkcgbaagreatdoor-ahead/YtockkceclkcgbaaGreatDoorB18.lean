/- A run that is played, as one thing; the contract of its step at the kinds that Apart plays. -/
import Derived.Test.YtockkceclkcgbaaGreatDoorB15
import Derived.Test.YtockkceclkcgbaaGreatDoorB16
import Derived.Test.YtockkceclkcgbaaGreatDoorB17
import Derived.Test.YtockkceclkcgbaaGreatDoorB09
import Derived.Deep.RegionHeld3
namespace Go.Proofs.YtockkceclkcgbaaGreatDoor
open Go.RowKit

/-- The run of number i in block b: its queue, what was seen, what holds of both. -/
def Play (X : World → (Nat → Tag) → Nat → Nat → MQ → Prop) (B : Int) (w : World) (T : Nat → Tag) (i b : Nat) (m : MQ) (L : Nat → List Nat) : Prop :=
  ∃ bx gb gc, X w T i bx m ∧ RunG w T i b bx gb gc m (itemsOf m) L ∧ m.Fit B ∧ NiceQ m L ∧ 0 < m.groups.length
theorem Play.step {X : World → (Nat → Tag) → Nat → Nat → MQ → Prop} {B Bm : Int} (hX : XC X Bm) {S : Tag → Prop} {w w' : World} {T T' : Nat → Tag} {i b : Nat} {m : MQ} {L : Nat → List Nat} (h : Play X B w T i b m L) (hs : Step S w T w' T') (hS : ∀ t, UT i t → ¬ S t) : Play X B w' T' i b m L := by
  obtain ⟨bx, gb, gc, hx, hr, hf, hq, hp⟩ := h
  exact ⟨bx, gb, gc, hX.step hx hs (fun t ht => hS t (.inl ht)), hr.step hs (fun t ht => hS t (.inr ht)), hf, hq, hp⟩
theorem Play.mono {X : World → (Nat → Tag) → Nat → Nat → MQ → Prop} {B B' : Int} {w : World} {T : Nat → Tag} {i b : Nat} {m : MQ} {L : Nat → List Nat} (h : Play X B w T i b m L) (hB : B ≤ B') : Play X B' w T i b m L := by
  obtain ⟨bx, gb, gc, hx, hr, hf, hq, hp⟩ := h
  exact ⟨bx, gb, gc, hx, hr, hf.mono hB, hq, hp⟩

theorem enqRun_rv (m : MQ) (L : Nat → List Nat) : enqRun m (m.rv L) = (menqM m (bodyN m.bodies.length)).rv L := by
  unfold enqRun menqM
  cases decide (menqE m (bodyN m.bodies.length) = 0)
  · rfl
  · simp only [cond_true]
    have e : (enqR (m.rv L) (bodyN m.bodies.length)).groups = (({ m with bodies := m.bodies ++ [bodyN m.bodies.length], groups := m.groups.map (fun g => { g with items := g.items ++ [It.zero] }), changes := wrap64 (m.changes + 1) } : MQ).rv L).groups := by
      apply List.ext_getElem?
      intro k
      unfold enqR MQ.rv
      simp only [List.getElem?_map, rvU_groups]
      cases hk : m.groups[k]? with
      | none => rfl
      | some g =>
        simp only [Option.map_some, growR]
        unfold itemsOf
        simp only [List.getElem?_map, hk, Option.map_some, seenVals_append]
        rfl
    unfold enqR MQ.rv MQ.rvU at e ⊢
    simp only at e
    simp only [List.map_append, List.map_cons, List.map_nil]
    rw [← e]

theorem menqM_glen (m : MQ) (s : ByteArray) : (menqM m s).groups.length = m.groups.length := by
  unfold menqM
  cases decide (menqE m s = 0) <;> simp

set_option maxHeartbeats 400000 in
theorem penq_any {X : World → (Nat → Tag) → Nat → Nat → MQ → Prop} {B Bm : Int} (hX : XC X Bm) (hle : B ≤ Bm) (i b : Nat) (m : MQ) (L : Nat → List Nat) (w : World) (T : Nat → Tag) (h : Play X B w T i b m L) :
    Calls Tryz.prog 73 #[.pointer (some ⟨b, 0, none⟩)] w fun e w' => e = .returned (.tuple #[]) ∧ ∃ T', Step (UT i) w T w' T' ∧ Play X B w' T' i b (menqM m (bodyN m.bodies.length)) L := by
  obtain ⟨bx, gb, gc, hx, hr, hf, hq, hp⟩ := h
  refine (renq_any hX hle i b bx m (m.rv L) w T hx hf hr.run rfl rfl rfl (by unfold MQ.rv; rw [rvU_blen])).mono ?_
  rintro e w' ⟨rfl, T', hs, hx', hr'⟩
  rw [enqRun_rv] at hr'
  obtain ⟨gb', gc', hr''⟩ := RunM.named hr' (by rw [menqM_glen]; exact hp)
  exact ⟨rfl, T', hs, bx, gb', gc', hx', hr'', fit_enq hf _, nice_enq hq hf, by rw [menqM_glen]; exact hp⟩

set_option maxHeartbeats 400000 in
theorem ptick_any {X : World → (Nat → Tag) → Nat → Nat → MQ → Prop} {B Bm : Int} (hX : XC X Bm) (hle : B ≤ Bm) (hlm : B ≤ 3999999999999940000) (i b : Nat) (m : MQ) (L : Nat → List Nat) (ms : Int) (w : World) (T : Nat → Tag) (h : Play X B w T i b m L) (h0 : 0 ≤ ms) (h1 : ms ≤ 60000) :
    Calls Tryz.prog 20 #[.pointer (some ⟨b, 0, none⟩), .int .i64 ms] w fun e w' => e = .returned (.tuple #[]) ∧ ∃ T', Step (UT i) w T w' T' ∧ Play X (B + 60000) w' T' i b (tickM m ms) L := by
  obtain ⟨bx, gb, gc, hx, hr, hf, hq, hp⟩ := h
  refine (rtick_any hX hle hlm i b bx m (m.rv L) ms w T hx hf hr.run rfl rfl h0 h1).mono ?_
  rintro e w' ⟨rfl, T', hs, hx', hr', hf'⟩
  have hb : btw ms 0 60000 = true := by simp [btw, h0, h1]
  have hM : tickM m ms = { m with time := m.time + ms } := by simp [tickM, hb]
  have hr2 : RunM w' T' i b bx ((tickM m ms).rv L) := by rw [hM]; exact hr'
  obtain ⟨gb', gc', hr''⟩ := RunM.named hr2 (by rw [hM]; exact hp)
  exact ⟨rfl, T', hs, bx, gb', gc', hx', hr'', hf', by rw [hM]; exact nice_time hq, by rw [hM]; exact hp⟩

theorem precv_any {X : World → (Nat → Tag) → Nat → Nat → MQ → Prop} {B Bm : Int} (hX : XC X Bm) (hle : B ≤ Bm) (i b : Nat) (m : MQ) (L : Nat → List Nat) (k : Nat) (g : MG) (n : Int) (w : World) (T : Nat → Tag) (h : Play X B w T i b m L) (hg : m.groups[k]? = some g) (h1 : 1 ≤ n) (h2 : n ≤ 32) :
    Calls Tryz.prog 21 #[.pointer (some ⟨b, 0, none⟩), .int .i64 k, .int .i64 n] w fun e w' => e = .returned (.int .i64 (recvAll m g n).out.length) ∧ ∃ T', Step (UT i) w T w' T' ∧ Play X B w' T' i b (m.setG k (recvAll m g n)) (updF L k (L k ++ offs (recvAll m g n).out)) := by
  obtain ⟨bx, gb, gc, hx, hr, hf, hq, hp⟩ := h
  refine (rrecv_any hX hle i b bx gb gc m L k g n w T hx hf hr hq hg h1 h2).mono ?_
  rintro e w' ⟨rfl, T', hs, hx', hr'⟩
  have hat := at_name hq.named hr.few hg
  have eM := (recvM_at hat hg h1 h2).1
  have hf' : (m.setG k (recvAll m g n)).Fit B := by have := fit_recv hf (nameB k) n; rw [eM] at this; exact this
  exact ⟨rfl, T', hs, bx, gb, gc, hx', hr', hf', nice_recv hq hf hg, by rw [setG_glen]; exact hp⟩

theorem rackM_glen (m : MQ) (k : Nat) (g : MG) (l : List Nat) (n : Int) : (rackM m k g l n).groups.length = m.groups.length := by
  unfold rackM
  cases decide (leasedR m.time g.items l n < 0)
  · exact setI_len
  · rfl
theorem rnackM_glen (m : MQ) (k : Nat) (g : MG) (l : List Nat) (n d : Int) : (rnackM m k g l n d).groups.length = m.groups.length := by
  unfold rnackM
  cases decide (leasedR m.time g.items l n < 0)
  · exact setI_len
  · rfl
theorem pack_any {X : World → (Nat → Tag) → Nat → Nat → MQ → Prop} {B Bm : Int} (hX : XC X Bm) (hle : B ≤ Bm) (i b : Nat) (m : MQ) (L : Nat → List Nat) (k : Nat) (g : MG) (n : Int) (w : World) (T : Nat → Tag) (h : Play X B w T i b m L) (hg : m.groups[k]? = some g) (h0 : -9223372036854775808 ≤ n) (h1 : n ≤ 9223372036854775807) :
    Calls Tryz.prog 22 #[.pointer (some ⟨b, 0, none⟩), .int .i64 k, .int .i64 n] w fun e w' => e = .returned (.tuple #[]) ∧ ∃ T', Step (UT i) w T w' T' ∧ Play X B w' T' i b (rackM m k g (L k) n) L := by
  obtain ⟨bx, gb, gc, hx, hr, hf, hq, hp⟩ := h
  refine (rack_any hX hle i b bx gb gc m L k g n w T hx hf hr hq hg h0 h1).mono ?_
  rintro e w' ⟨rfl, T', hs, hx', hr', hf', hq'⟩
  exact ⟨rfl, T', hs, bx, gb, gc, hx', hr', hf', hq', by rw [rackM_glen]; exact hp⟩
theorem pnack_any {X : World → (Nat → Tag) → Nat → Nat → MQ → Prop} {B Bm : Int} (hX : XC X Bm) (hle : B ≤ Bm) (i b : Nat) (m : MQ) (L : Nat → List Nat) (k : Nat) (g : MG) (n d : Int) (w : World) (T : Nat → Tag) (h : Play X B w T i b m L) (hg : m.groups[k]? = some g) (h0 : -9223372036854775808 ≤ n) (h1 : n ≤ 9223372036854775807) (hd0 : 0 ≤ d) (hd1 : d ≤ 60000) :
    Calls Tryz.prog 75 #[.pointer (some ⟨b, 0, none⟩), .int .i64 k, .int .i64 n, .int .i64 d] w fun e w' => e = .returned (.tuple #[]) ∧ ∃ T', Step (UT i) w T w' T' ∧ Play X B w' T' i b (rnackM m k g (L k) n d) L := by
  obtain ⟨bx, gb, gc, hx, hr, hf, hq, hp⟩ := h
  refine (rnack_any hX hle i b bx gb gc m L k g n d w T hx hf hr hq hg h0 h1 hd0 hd1).mono ?_
  rintro e w' ⟨rfl, T', hs, hx', hr', hf', hq'⟩
  exact ⟨rfl, T', hs, bx, gb, gc, hx', hr', hf', hq', by rw [rnackM_glen]; exact hp⟩

/-- what a step leaves: kinds 1, 3, 4, 5, 6 -/
def stepQ (kind n ms : Int) (k : Nat) (g : MG) (m : MQ) (L : Nat → List Nat) : MQ :=
  if kind = 1 then menqM m (bodyN m.bodies.length) else if kind = 3 then m.setG k (recvAll m g (1 + pickQ n 32)) else if kind = 4 then rackM m k g (L k) n else if kind = 5 then rnackM m k g (L k) n (pickQ ms 100) else tickM m (pickQ n 50)
def stepL (kind n : Int) (k : Nat) (g : MG) (m : MQ) (L : Nat → List Nat) : Nat → List Nat :=
  if kind = 3 then updF L k (L k ++ offs (recvAll m g (1 + pickQ n 32)).out) else L

attribute [local go_sem] over_cell

set_option maxRecDepth 100000 in
set_option maxHeartbeats 4000000 in
theorem pstep_any {X : World → (Nat → Tag) → Nat → Nat → MQ → Prop} {B Bm : Int} (hX : XC X Bm) (hle : B + 60000 ≤ Bm) (hlm : B ≤ 3999999999999940000) (i b : Nat) (m : MQ) (L : Nat → List Nat) (kind G n ms : Int) (k : Nat) (g : MG) (w : World) (T : Nat → Tag) (h : Play X B w T i b m L) (hg : m.groups[k]? = some g) (hk : pickQ G m.groups.length = k) (hK : kind = 1 ∨ kind = 3 ∨ kind = 4 ∨ kind = 5 ∨ kind = 6) (hG : i64 G) (hn : i64 n) (hms : i64 ms) :
    Calls Tryz.prog 34 #[.pointer (some ⟨b, 0, none⟩), .agg #[.int .i64 kind, .int .i64 G, .int .i64 n, .int .i64 ms]] w fun e w' => e = .returned (.tuple #[]) ∧ ∃ T', Step (UT i) w T w' T' ∧ Play X (B + 60000) w' T' i b (stepQ kind n ms k g m L) (stepL kind n k g m L) := by
  have hle' : B ≤ Bm := by omega
  have s1 := step_new w T (.cells #[.int .i64 kind, .int .i64 G, .int .i64 n, .int .i64 ms] 85) .free (fun _ => False)
  have hO := blk_new w T #[.int .i64 kind, .int .i64 G, .int .i64 n, .int .i64 ms] 85 .free
  have h1 := h.step hX s1 (fun _ _ h => h)
  have hpos : 0 < m.groups.length := by obtain ⟨_, _, _, _, _, _, _, hp⟩ := h; exact hp
  have h6 : m.groups.length ≤ 6 := by obtain ⟨_, _, _, _, hr, _⟩ := h; exact hr.few
  have hpk := fun w1 => (pickk_same G m.groups.length w1 hG.1 hG.2 (by omega) (by omega)).mono (fun e w' (h : _ ∧ w' = w1) => (⟨h.1, by rw [h.2]; exact Below.refl _ _⟩ : e = .returned (.int .i64 (pickQ G m.groups.length)) ∧ Below w1.heap.size w1 w'))
  rw [hk] at hpk
  go_enter Tryz.func34, Tryz.ntmps34
  go_wp2_with fail
  generalize retag T w.heap.size .free = T1 at *
  generalize w.alloc (.cells #[.int .i64 kind, .int .i64 G, .int .i64 n, .int .i64 ms] 85) = w1 at *
  generalize w.heap.size = ob at hO ⊢
  obtain ⟨bx, gb, gc, hx, hr, hf, hq, hp⟩ := id h1
  obtain ⟨c7, lb⟩ := hr.len
  have q1 := hO.cell (j := 1) rfl
  simp only [List.getElem_toArray, List.getElem_cons_succ, List.getElem_cons_zero] at q1
  have lO := hO.lt
  clear hx hr hf hq hp
  refine wp_region_over (by kernel_rfl) (by kernel_rfl) ?_
  repeat (go_big_quiet_step ((go_at_call 33; exact quiet_over hpk)))
  refine wpQuiet_nil ?_
  rintro _ ⟨x2, rfl⟩
  have g2 := step_below (fun _ => False) T1 (over_below w1 x2)
  generalize over w1 x2 = w2 at *
  have h2 := h1.step hX g2 (fun _ _ h => h)
  have hO2 := hO.step g2 (fun h => h)
  have s2 : Step (UT i) w T w2 T1 := (s1.trans g2).mono (fun _ h => h.elim)
  clear h1 hO s1 g2 q1 lO lb c7 hpk h
  have q0 := hO2.cell (j := 0) rfl
  have q2 := hO2.cell (j := 2) rfl
  have q3 := hO2.cell (j := 3) rfl
  simp only [List.getElem_toArray, List.getElem_cons_succ, List.getElem_cons_zero] at q0 q2 q3
  have lO := hO2.lt
  have ob32 := fun w1 => pickk_same n 32 w1 hn.1 hn.2 (by decide) (by decide)
  have r32 := pickQ_range n 32 (by decide)
  have ob50 := fun w1 => pickk_same n 50 w1 hn.1 hn.2 (by decide) (by decide)
  have r50 := pickQ_range n 50 (by decide)
  have ob100 := fun w1 => pickk_same ms 100 w1 hms.1 hms.2 (by decide) (by decide)
  have r100 := pickQ_range ms 100 (by decide)
  rcases hK with rfl | rfl | rfl | rfl | rfl
  · go_wp2_with fail
    refine (penq_any hX hle' i b m L w2 T1 h2).mono ?_
    rintro e w3 ⟨rfl, T3, s3, h3⟩
    go_wp2
    go_end0
    exact ⟨rfl, T3, s2.trans s3, h3.mono (by omega)⟩
  · go_wp2_with fail
    refine (ob32 _).mono ?_
    rintro e w3 ⟨rfl, rfl⟩
    have hpr := precv_any hX hle' i b m L k g (1 + pickQ n 32) _ T1 h2 hg (by omega) (by omega)
    have eQ : stepQ 3 n ms k g m L = m.setG k (recvAll m g (1 + pickQ n 32)) := by simp [stepQ]
    have eL : stepL 3 n k g m L = updF L k (L k ++ offs (recvAll m g (1 + pickQ n 32)).out) := by simp [stepL]
    generalize pickQ n 32 = p32 at *
    go_wp2_with fail
    refine hpr.mono ?_
    clear hpr
    rintro e w4 ⟨rfl, T3, s3, h3⟩
    go_wp2
    go_end0
    rw [eQ, eL]
    exact ⟨rfl, T3, s2.trans s3, h3.mono (by omega)⟩
  · go_wp2_with fail
    refine (pack_any hX hle' i b m L k g n w2 T1 h2 hg hn.1 hn.2).mono ?_
    rintro e w3 ⟨rfl, T3, s3, h3⟩
    go_wp2
    go_end0
    exact ⟨rfl, T3, s2.trans s3, h3.mono (by omega)⟩
  · have eQ : stepQ 5 n ms k g m L = rnackM m k g (L k) n (pickQ ms 100) := by simp [stepQ]
    have eL : stepL 5 n k g m L = L := by simp [stepL]
    have gdr := step_below (fun _ => False) T1 (Below.refl w2.heap.size w2).drew
    have hpn := pnack_any hX hle' i b m L k g n (pickQ ms 100) _ T1 (h2.step hX gdr (fun _ _ h => h)) hg hn.1 hn.2 (by omega) (by omega)
    generalize pickQ ms 100 = p100 at *
    go_wp2_with fail
    go_region_held3 (fun w' => w'.cell? ⟨ob, 2, none⟩ = some (.int .i64 n) ∧ w'.cell? ⟨ob, 3, none⟩ = some (.int .i64 ms)) (go_keep) (first | (go_at_call 33; refine (ob100 _).mono ?_; rintro e w3 ⟨rfl, rfl⟩) | (go_at_call 75; refine hpn.mono ?_; clear hpn; rintro e w3 ⟨rfl, T3, s3, h3⟩; have k2 := ((hO2.step gdr (fun h => h)).step s3 (by simp [UT, XT, RT])).cell (j := 2) rfl; have k3 := ((hO2.step gdr (fun h => h)).step s3 (by simp [UT, XT, RT])).cell (j := 3) rfl; simp only [List.getElem_toArray, List.getElem_cons_succ, List.getElem_cons_zero] at k2 k3))
    all_goals
      go_wp2
      go_end0
      rw [eQ, eL]
      exact ⟨rfl, T3, s2.trans ((gdr.mono (fun _ h => h.elim)).trans s3), h3.mono (by omega)⟩
  · go_wp2_with fail
    refine (ob50 _).mono ?_
    rintro e w3 ⟨rfl, rfl⟩
    have hpt := ptick_any hX hle' hlm i b m L (pickQ n 50) _ T1 h2 (by omega) (by omega)
    have eQ : stepQ 6 n ms k g m L = tickM m (pickQ n 50) := by simp [stepQ]
    have eL : stepL 6 n k g m L = L := by simp [stepL]
    generalize pickQ n 50 = p50 at *
    go_wp2_with fail
    refine hpt.mono ?_
    clear hpt
    rintro e w4 ⟨rfl, T3, s3, h3⟩
    go_wp2
    go_end0
    rw [eQ, eL]
    exact ⟨rfl, T3, s2.trans s3, h3⟩

end Go.Proofs.YtockkceclkcgbaaGreatDoor

/- Contracts of raw and made: a configuration out of raw numbers. -/
namespace Go.Proofs.YtockkceclkcgbaaGreatDoor
open Go.RowKit

/-- a list of numbers among the arguments -/
def ArgI (w : World) (ao : Option Addr) (l : List Int) : Prop := ∀ k v, l[k]? = some v → i64 v ∧ ∃ b off, ao = some ⟨b, off, none⟩ ∧ b < w.heap.size ∧ w.cell? ⟨b, off + k, none⟩ = some (.int .i64 v)
theorem ArgI.below {w w' : World} {ao : Option Addr} {l : List Int} (h : ArgI w ao l) (hb : Below w.heap.size w w') : ArgI w' ao l := by
  intro k v hk
  obtain ⟨h1, b, off, rfl, hlt, hc⟩ := h k v hk
  exact ⟨h1, b, off, rfl, Nat.lt_of_lt_of_le hlt hb.size, (hb.cell (p := ⟨b, off + k, none⟩) hlt).trans hc⟩
def rawI (l : List Int) (k : Nat) : Int := l.getD k 0
theorem rawI_in {w : World} {ao : Option Addr} {l : List Int} (h : ArgI w ao l) (k : Nat) : -9223372036854775808 ≤ rawI l k ∧ rawI l k ≤ 9223372036854775807 := by
  unfold rawI List.getD
  cases hk : l[k]? with
  | none => simp
  | some v => exact (h k v hk).1
def madeC (l : List Int) : Conf := ⟨1 + pickQ (rawI l 0) 30, 1 + pickQ (rawI l 1) 4, 1 + pickQ (rawI l 2) 5, 1 + pickQ (rawI l 2) 5 + pickQ (rawI l 3) 30⟩
theorem madeC_good (l : List Int) : goodC (madeC l) = true := by
  have h0 := pickQ_range (rawI l 0) 30 (by decide)
  have h1 := pickQ_range (rawI l 1) 4 (by decide)
  have h2 := pickQ_range (rawI l 2) 5 (by decide)
  have h3 := pickQ_range (rawI l 3) 30 (by decide)
  unfold goodC madeC
  generalize pickQ (rawI l 0) 30 = a0 at *
  generalize pickQ (rawI l 1) 4 = a1 at *
  generalize pickQ (rawI l 2) 5 = a2 at *
  generalize pickQ (rawI l 3) 30 = a3 at *
  have e1 : btw (1 + a0) 1 60000 = true := by simp only [btw, decide_eq_true_eq]; omega
  have e2 : btw (1 + a1) 1 10 = true := by simp only [btw, decide_eq_true_eq]; omega
  have e3 : btw (1 + a2) 1 16 = true := by simp only [btw, decide_eq_true_eq]; omega
  have e4 : btw (1 + a2 + a3) (1 + a2) 100 = true := by simp only [btw, decide_eq_true_eq]; omega
  rw [e1, e2, e3, e4]
  rfl

set_option maxRecDepth 100000 in
set_option maxHeartbeats 1000000 in
theorem raw_any (l : List Int) (ao : Option Addr) (cap : Nat) (k : Nat) (w : World) (h : ArgI w ao l) (_hk : k < 4) (_hl : l.length ≤ 9223372036854775807) : Calls Tryz.prog 77 #[.slice ao l.length cap, .int .i64 k] w fun e w' => e = .returned (.int .i64 (rawI l k)) ∧ w' = w := by
  by_cases hlt : k < l.length
  · obtain ⟨v, hv⟩ : ∃ v, l[k]? = some v := ⟨_, List.getElem?_eq_getElem hlt⟩
    obtain ⟨_, b, off, rfl, _, hc⟩ := h k v hv
    have hR : rawI l k = v := by simp [rawI, List.getD, hv]
    rw [hR]
    go_enter Tryz.func77, Tryz.ntmps77
    go_wp2
    go_ret
    exact ⟨rfl, rfl⟩
  · have hR : rawI l k = 0 := by simp [rawI, List.getD, List.getElem?_eq_none (Nat.le_of_not_lt hlt)]
    rw [hR]
    go_enter Tryz.func77, Tryz.ntmps77
    go_wp2
    go_ret
    exact ⟨rfl, rfl⟩

set_option maxRecDepth 100000 in
set_option maxHeartbeats 2000000 in
theorem made_any (l : List Int) (ao : Option Addr) (cap : Nat) (w : World) (h : ArgI w ao l) (hl : l.length ≤ 9223372036854775807) : Calls Tryz.prog 37 #[.slice ao l.length cap] w fun e w' => e = .returned (.agg (madeC l).cells) ∧ Below w.heap.size w w' := by
  have h0 := rawI_in h 0
  have h1 := rawI_in h 1
  have h2 := rawI_in h 2
  have h3 := rawI_in h 3
  have p0 := pickQ_range (rawI l 0) 30 (by decide)
  have p1 := pickQ_range (rawI l 1) 4 (by decide)
  have p2 := pickQ_range (rawI l 2) 5 (by decide)
  have p3 := pickQ_range (rawI l 3) 30 (by decide)
  have hb1 : Below w.heap.size w (w.alloc (.cells #[.int .i64 0, .int .i64 0, .int .i64 0, .int .i64 0] 23)) := (Below.refl _ _).alloc (Nat.le_refl _) _
  have ha := h.below hb1
  have r0 := raw_any l ao cap 0 _ ha (by decide) hl
  have r1 := raw_any l ao cap 1 _ ha (by decide) hl
  have r2 := raw_any l ao cap 2 _ ha (by decide) hl
  have k0 := fun w1 => pickk_same (rawI l 0) 30 w1 h0.1 h0.2 (by decide) (by decide)
  have k1 := fun w1 => pickk_same (rawI l 1) 4 w1 h1.1 h1.2 (by decide) (by decide)
  have k2 := fun w1 => pickk_same (rawI l 2) 5 w1 h2.1 h2.2 (by decide) (by decide)
  have k3 := fun w1 => pickk_same (rawI l 3) 30 w1 h3.1 h3.2 (by decide) (by decide)
  have hC : madeC l = ⟨1 + pickQ (rawI l 0) 30, 1 + pickQ (rawI l 1) 4, 1 + pickQ (rawI l 2) 5, 1 + pickQ (rawI l 2) 5 + pickQ (rawI l 3) 30⟩ := rfl
  rw [hC]
  clear hC h0 h1 h2 h3
  generalize pickQ (rawI l 0) 30 = a0 at *
  generalize pickQ (rawI l 1) 4 = a1 at *
  generalize pickQ (rawI l 2) 5 = a2 at *
  generalize pickQ (rawI l 3) 30 = a3 at *
  go_enter Tryz.func37, Tryz.ntmps37
  go_wp2_with fail
  refine r0.mono ?_
  rintro e w1 ⟨rfl, rfl⟩
  go_wp2_with fail
  refine (k0 _).mono ?_
  rintro e w1 ⟨rfl, rfl⟩
  go_wp2_with fail
  refine r1.mono ?_
  rintro e w1 ⟨rfl, rfl⟩
  go_wp2_with fail
  refine (k1 _).mono ?_
  rintro e w1 ⟨rfl, rfl⟩
  go_wp2_with fail
  refine r2.mono ?_
  rintro e w1 ⟨rfl, rfl⟩
  go_wp2_with fail
  refine (k2 _).mono ?_
  rintro e w1 ⟨rfl, rfl⟩
  have hb2 : Below w.heap.size w ((w.alloc (.cells #[.int .i64 0, .int .i64 0, .int .i64 0, .int .i64 0] 23)).alloc (.cells #[.int .i64 (1 + a0), .int .i64 (1 + a1), .int .i64 (1 + a2), .int .i64 0] 23)).drew := ((hb1.alloc (by simp) _)).drew
  have r3 := raw_any l ao cap 3 _ (h.below hb2) (by decide) hl
  have hb3 : Below w.heap.size w ((w.alloc (.cells #[.int .i64 (1 + a0), .int .i64 (1 + a1), .int .i64 (1 + a2), .int .i64 (1 + a2 + a3)] 23)).alloc (.cells #[.int .i64 (1 + a0), .int .i64 (1 + a1), .int .i64 (1 + a2), .int .i64 (1 + a2 + a3)] 23)).drew := (((Below.refl _ _).alloc (Nat.le_refl _) _).alloc (by simp) _).drew
  clear ha r0 r1 r2 k0 k1 k2
  go_wp2_with fail
  go_region_law (first | (go_simp; go_at_call 77; refine r3.mono ?_; rintro e w1 ⟨rfl, rfl⟩) | (go_simp; go_at_call 33; refine (k3 _).mono ?_; rintro e w1 ⟨rfl, rfl⟩))
  all_goals
    go_wp2
    refine bodyPost_ret (v := .agg #[.int .i64 (1 + a0), .int .i64 (1 + a1), .int .i64 (1 + a2), .int .i64 (1 + a2 + a3)]) ?_ rfl ⟨rfl, hb3⟩
    simp [results, Tryz.results37, go_sem]

end Go.Proofs.YtockkceclkcgbaaGreatDoor

/- The mathematics of Apart: two runs, the second with one group more: what group 0 of both holds is the same behind every step; the run as it begins. -/
namespace Go.Proofs.YtockkceclkcgbaaGreatDoor
open Go.RowKit

theorem one_ch {m : MQ} {start : Int} {st st' : RS} {n : Nat} {x : It} (h1 : st'.items = st.items) (h2 : st'.dead = st.dead) (h3 : st'.out = st.out) : (recvOne m start st' n x).items = (recvOne m start st n x).items ∧ (recvOne m start st' n x).dead = (recvOne m start st n x).dead ∧ (recvOne m start st' n x).out = (recvOne m start st n x).out := by
  unfold recvOne
  cases passed m start n x
  · cases decide (m.c.d ≤ x.tries) <;> simp [h1, h2, h3]
  · simp [h1, h2, h3]
theorem step_ch {m : MQ} {start : Int} {fr : List Nat} {st st' : RS} {k : Nat} (h1 : st'.items = st.items) (h2 : st'.dead = st.dead) (h3 : st'.out = st.out) : (recvStep m start fr st' k).items = (recvStep m start fr st k).items ∧ (recvStep m start fr st' k).dead = (recvStep m start fr st k).dead ∧ (recvStep m start fr st' k).out = (recvStep m start fr st k).out := by
  unfold recvStep
  rw [h1]
  cases decide (k < m.bodies.length)
  · simp only [cond_false]
    cases fr[k - m.bodies.length]? with
    | none => exact ⟨h1, h2, h3⟩
    | some n =>
      simp only
      cases st.items[n]? with
      | none => exact ⟨h1, h2, h3⟩
      | some x => exact one_ch h1 h2 h3
  · simp only [cond_true]
    cases st.items[k]? with
    | none => exact ⟨h1, h2, h3⟩
    | some x =>
      simp only
      cases decide (x.tries = 0)
      · exact one_ch h1 h2 h3
      · exact ⟨h1, h2, h3⟩
theorem run_ch {m : MQ} {start : Int} {fr : List Nat} {n : Int} : ∀ (f k : Nat) (st st' : RS), st'.items = st.items → st'.dead = st.dead → st'.out = st.out →
    (recvRun m start fr n f k st').items = (recvRun m start fr n f k st).items ∧ (recvRun m start fr n f k st').dead = (recvRun m start fr n f k st).dead ∧ (recvRun m start fr n f k st').out = (recvRun m start fr n f k st).out
  | 0, _, _, _, h1, h2, h3 => ⟨h1, h2, h3⟩
  | f + 1, k, st, st', h1, h2, h3 => by
    unfold recvRun
    rw [h3]
    cases decide (n ≤ st.out.length)
    · obtain ⟨a, b, c⟩ := step_ch (m := m) (start := start) (fr := fr) (k := k) h1 h2 h3
      exact run_ch f (k + 1) _ _ a b c
    · exact ⟨h1, h2, h3⟩

/-- two runs, the second with one group more -/
structure Twin (ma mb : MQ) (La Lb : Nat → List Nat) : Prop where
  c : mb.c = ma.c
  bodies : mb.bodies = ma.bodies
  floor : mb.floor = ma.floor
  time : mb.time = ma.time
  g : mb.groups[0]? = ma.groups[0]?
  last : Lb 0 = La 0
  la : ma.groups.length = 1
  lb : mb.groups.length = 2

theorem twin_recv {ma mb : MQ} {La Lb : Nat → List Nat} (h : Twin ma mb La Lb) (g : MG) (n : Int) : (recvAll mb g n).items = (recvAll ma g n).items ∧ (recvAll mb g n).dead = (recvAll ma g n).dead ∧ (recvAll mb g n).out = (recvAll ma g n).out := by
  obtain ⟨cb, bb, fb, ga, tb, cha⟩ := ma
  obtain ⟨cb, bb, fb, gb, tb, chb⟩ := mb
  obtain ⟨h1, h2, h3, h4, _, _, _, _⟩ := h
  simp only at h1 h2 h3 h4
  subst h1 h2 h3 h4
  have hp : ∀ (start : Int) (k : Nat) (x : It), passed ⟨cb, bb, fb, gb, tb, chb⟩ start k x = passed ⟨cb, bb, fb, ga, tb, cha⟩ start k x := fun _ _ _ => rfl
  have ho : ∀ (start : Int) (st : RS) (k : Nat) (x : It), recvOne ⟨cb, bb, fb, gb, tb, chb⟩ start st k x = recvOne ⟨cb, bb, fb, ga, tb, cha⟩ start st k x := fun _ _ _ _ => rfl
  have hs : ∀ (start : Int) (fr : List Nat) (st : RS) (k : Nat), recvStep ⟨cb, bb, fb, gb, tb, chb⟩ start fr st k = recvStep ⟨cb, bb, fb, ga, tb, cha⟩ start fr st k := fun start fr st k => by
    unfold recvStep
    simp only [ho]
  have hr : ∀ (start : Int) (fr : List Nat) (f k : Nat) (st : RS), recvRun ⟨cb, bb, fb, gb, tb, chb⟩ start fr n f k st = recvRun ⟨cb, bb, fb, ga, tb, cha⟩ start fr n f k st := by
    intro start fr f
    induction f with
    | zero => intro k st; rfl
    | succ f ih =>
      intro k st
      unfold recvRun
      rw [hs, ih]
  unfold recvAll
  rw [hr]
  exact run_ch _ _ _ _ rfl rfl rfl

theorem twin_both {ma mb : MQ} {La Lb : Nat → List Nat} {g : MG} (h : Twin ma mb La Lb) (hg : ma.groups[0]? = some g) (kind n ms : Int) : Twin (stepQ kind n ms 0 g ma La) (stepQ kind n ms 0 g mb Lb) (stepL kind n 0 g ma La) (stepL kind n 0 g mb Lb) := by
  have hgb : mb.groups[0]? = some g := by rw [h.g, hg]
  unfold stepQ stepL
  by_cases k1 : kind = 1
  · subst k1
    simp only [if_true, show ¬ (1 : Int) = 3 by decide, if_false]
    have hE : menqE mb (bodyN mb.bodies.length) = menqE ma (bodyN ma.bodies.length) := by unfold menqE; rw [h.bodies, h.floor, h.c]
    unfold menqM
    rw [hE]
    cases decide (menqE ma (bodyN ma.bodies.length) = 0)
    · exact h
    · simp only [cond_true]
      exact ⟨h.c, by simp [h.bodies], h.floor, h.time, by simp only [List.getElem?_map, h.g], h.last, by simp [h.la], by simp [h.lb]⟩
  · rw [if_neg k1, if_neg k1]
    by_cases k3 : kind = 3
    · rw [if_pos k3, if_pos k3, if_pos k3, if_pos k3]
      obtain ⟨e1, e2, e3⟩ := twin_recv h g (1 + pickQ n 32)
      refine ⟨h.c, h.bodies, h.floor, h.time, ?_, ?_, by rw [setG_glen]; exact h.la, by rw [setG_glen]; exact h.lb⟩
      · rw [setG_group, setG_group, hg, hgb]
        simp [e1, e2]
      · rw [updF_same, updF_same, h.last, e3]
    · rw [if_neg k3, if_neg k3, if_neg k3, if_neg k3]
      have hR : leasedR mb.time g.items (Lb 0) n = leasedR ma.time g.items (La 0) n := by rw [h.time, h.last]
      by_cases k4 : kind = 4
      · rw [if_pos k4, if_pos k4]
        unfold rackM
        rw [hR]
        cases decide (leasedR ma.time g.items (La 0) n < 0)
        · simp only [cond_false]
          refine ⟨h.c, h.bodies, h.floor, h.time, ?_, h.last, by unfold ackQ; rw [setI_len]; exact h.la, by unfold ackQ; rw [setI_len]; exact h.lb⟩
          rw [ackQ_group, ackQ_group, hg, hgb]
        · exact h
      · rw [if_neg k4, if_neg k4]
        by_cases k5 : kind = 5
        · rw [if_pos k5, if_pos k5]
          unfold rnackM
          rw [hR]
          cases decide (leasedR ma.time g.items (La 0) n < 0)
          · simp only [cond_false]
            refine ⟨h.c, h.bodies, h.floor, h.time, ?_, h.last, by rw [setI_len]; exact h.la, by rw [setI_len]; exact h.lb⟩
            rw [setI_group, setI_group, hg, hgb]
            simp [nackI, h.time]
          · exact h
        · rw [if_neg k5, if_neg k5]
          unfold tickM
          cases btw (pickQ n 50) 0 60000
          · exact h
          · exact ⟨h.c, h.bodies, h.floor, by simp [h.time], h.g, h.last, h.la, h.lb⟩

theorem twin_other {ma mb : MQ} {La Lb : Nat → List Nat} {g : MG} (h : Twin ma mb La Lb) (kind n ms : Int) (hK : kind = 3 ∨ kind = 4 ∨ kind = 5) : Twin ma (stepQ kind n ms 1 g mb Lb) La (stepL kind n 1 g mb Lb) := by
  unfold stepQ stepL
  rcases hK with rfl | rfl | rfl
  · simp only [show ¬ (3 : Int) = 1 by decide, if_false, if_true]
    refine ⟨h.c, h.bodies, h.floor, h.time, ?_, ?_, h.la, by rw [setG_glen]; exact h.lb⟩
    · rw [setG_group, h.g]
      cases ma.groups[0]? <;> simp
    · rw [updF_other _ _ _ (by decide)]; exact h.last
  · simp only [show ¬ (4 : Int) = 1 by decide, show ¬ (4 : Int) = 3 by decide, if_false, if_true]
    unfold rackM
    cases decide (leasedR mb.time g.items (Lb 1) n < 0)
    · simp only [cond_false]
      refine ⟨h.c, h.bodies, h.floor, h.time, ?_, h.last, h.la, by unfold ackQ; rw [setI_len]; exact h.lb⟩
      rw [ackQ_group, h.g]
      cases ma.groups[0]? <;> simp
    · exact h
  · simp only [show ¬ (5 : Int) = 1 by decide, show ¬ (5 : Int) = 3 by decide, show ¬ (5 : Int) = 4 by decide, if_false, if_true]
    unfold rnackM
    cases decide (leasedR mb.time g.items (Lb 1) n < 0)
    · simp only [cond_false]
      refine ⟨h.c, h.bodies, h.floor, h.time, ?_, h.last, h.la, by rw [setI_len]; exact h.lb⟩
      rw [setI_group, h.g]
      cases ma.groups[0]? <;> simp
    · exact h

/-- the run as it begins: one group, one message, which is delivered and acked -/
def q0 (c : Conf) : MQ := ⟨c, [], 0, [], 0, 0⟩
def g2 : MG := ⟨nameB 0, 0, [It.zero], []⟩
def ch1 : Int := wrap64 (0 + 1)
def q2 (c : Conf) : MQ := ⟨c, [bodyN 0], 0, [g2], 0, wrap64 (ch1 + 1)⟩
def i3 (c : Conf) : It := ⟨ch1, 0, 0 + c.l, 0⟩
def q3 (c : Conf) : MQ := ⟨c, [bodyN 0], 0, [⟨nameB 0, 0, [i3 c], []⟩], 0, wrap64 (wrap64 (ch1 + 1) + 1)⟩
def q4 (c : Conf) : MQ := ⟨c, [bodyN 0], 0, [⟨nameB 0, 0, [{ i3 c with done := 1 }], []⟩], 0, wrap64 (wrap64 (wrap64 (ch1 + 1) + 1) + 1)⟩
def L0 : Nat → List Nat := fun _ => []
def L3 : Nat → List Nat := updF L0 0 [0]
def q1 (c : Conf) : MQ := ⟨c, [], 0, [⟨nameB 0, 0, [], []⟩], 0, ch1⟩

theorem start0 (c : Conf) : startOf (q0 c) 0 = 0 := rfl
theorem begin1 (c : Conf) : mgrpM (q0 c) (nameB 0) 0 = q1 c := rfl
theorem begin2 {c : Conf} (h : goodC c = true) : menqM (q1 c) (bodyN 0) = q2 c := by
  have hk := (good_all h).2.2
  have hE : menqE (q1 c) (bodyN 0) = 0 := by
    have h3 : ¬ c.k ≤ 0 := by omega
    have hsz : (bodyN 0).size = 3 := rfl
    simp [menqE, enqY, q1, hsz, h3]
  unfold menqM
  rw [hE]
  rfl
theorem begin3 {c : Conf} (h : goodC c = true) : recvAll (q2 c) g2 5 = ⟨[i3 c], [], wrap64 (wrap64 (ch1 + 1) + 1), [⟨0, ch1, bodyN 0⟩]⟩ := by
  have hd := (good_all h).2.1
  have hp : passed (q2 c) 0 0 It.zero = false := rfl
  have hf : freshTo g2.items 1 = [0] := rfl
  have hE' : decide ((q2 c).c.d ≤ It.zero.tries) = false := by
    have : ¬ c.d ≤ 0 := by omega
    exact decide_eq_false this
  unfold recvAll
  rw [show g2.items.length = 1 from rfl, hf]
  have h1 : recvStep (q2 c) g2.start [0] ⟨g2.items, g2.dead, (q2 c).changes, []⟩ 0 = ⟨g2.items, g2.dead, (q2 c).changes, []⟩ := rfl
  have h2 : recvStep (q2 c) g2.start [0] ⟨g2.items, g2.dead, (q2 c).changes, []⟩ 1 = ⟨[i3 c], [], wrap64 (wrap64 (ch1 + 1) + 1), [⟨0, ch1, bodyN 0⟩]⟩ := by
    show recvOne (q2 c) 0 ⟨[It.zero], [], wrap64 (ch1 + 1), []⟩ 0 It.zero = _
    unfold recvOne
    rw [hp, hE']
    rfl
  show recvRun (q2 c) g2.start [0] 5 2 0 ⟨g2.items, g2.dead, (q2 c).changes, []⟩ = _
  rw [recvRun, show decide ((5 : Int) ≤ ((⟨g2.items, g2.dead, (q2 c).changes, []⟩ : RS).out.length : Int)) = false from rfl, cond_false, h1]
  rw [recvRun, show decide ((5 : Int) ≤ ((⟨g2.items, g2.dead, (q2 c).changes, []⟩ : RS).out.length : Int)) = false from rfl, cond_false, h2]
  rfl
theorem begin3q {c : Conf} (h : goodC c = true) : (q2 c).setG 0 (recvAll (q2 c) g2 5) = q3 c ∧ updF L0 0 (L0 0 ++ offs (recvAll (q2 c) g2 5).out) = L3 ∧ (recvAll (q2 c) g2 5).out.length = 1 := by
  rw [begin3 h]
  exact ⟨rfl, rfl, rfl⟩
theorem begin4 {c : Conf} (h : goodC c = true) : rackM (q3 c) 0 ⟨nameB 0, 0, [i3 c], []⟩ (L3 0) 0 = q4 c := by
  have hl := (good_all h).1
  have hL : L3 0 = [0] := rfl
  have h2 : decide (0 + c.l ≤ 0) = false := decide_eq_false (by omega)
  have hR : leasedR (q3 c).time [i3 c] [0] 0 = 0 := by
    show (bif decide ((0 : Int) < 0) || decide (0 + c.l ≤ 0) then (-1 : Int) else ((0 : Nat) : Int)) = 0
    rw [h2]
    rfl
  unfold rackM
  rw [hL, hR]
  rfl

theorem twin_begin (c : Conf) : Twin (q4 c) (mgrpM (q4 c) (nameB 1) (startOf (q4 c) 0)) L3 L3 := by
  have hst : startOf (q4 c) 0 = 0 := rfl
  rw [hst]
  refine ⟨rfl, rfl, rfl, rfl, rfl, rfl, rfl, rfl⟩

end Go.Proofs.YtockkceclkcgbaaGreatDoor

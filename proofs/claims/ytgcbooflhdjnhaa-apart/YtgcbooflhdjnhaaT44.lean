/- Contracts of raw and made: a configuration out of raw numbers. -/
import Derived.Test.YtgcbooflhdjnhaaT33
import Derived.Deep.RegionHeld3
import Derived.Test.YtgcbooflhdjnhaaT38
import Derived.Test.YtgcbooflhdjnhaaT41
import Derived.Test.YtgcbooflhdjnhaaT43
namespace Go.Proofs.Ytgcbooflhdjnhaa
open Go.RowKit

/-- a list of numbers among the arguments -/
def ArgI (w : World) (ao : Option Addr) (l : List Int) : Prop := ∀ k v, l[k]? = some v → i64 v ∧ ∃ b off, ao = some ⟨b, off, none⟩ ∧ b < w.heap.size ∧ w.cell? ⟨b, off + k, none⟩ = some (.int .i64 v)
theorem ArgI.below {w w' : World} {ao : Option Addr} {l : List Int} (h : ArgI w ao l) (hb : Below w.heap.size w w') : ArgI w' ao l := by
  intro k v hk
  obtain ⟨h1, b, off, rfl, hlt, hc⟩ := h k v hk
  exact ⟨h1, b, off, rfl, Nat.lt_of_lt_of_le hlt hb.size, (hb.cell (p := ⟨b, off + k, none⟩) hlt).trans hc⟩
def rawI (l : List Int) (k : Nat) : Int := l.getD k 0
theorem rawI_in {w : World} {ao : Option Addr} {l : List Int} (h : ArgI w ao l) (k : Nat) : -9223372036854775808 ≤ rawI l k ∧ rawI l k ≤ 9223372036854775807 := by
  unfold rawI List.getD
  cases hk : l[k]? with
  | none => simp
  | some v => exact (h k v hk).1
def madeC (l : List Int) : Conf := ⟨1 + pickQ (rawI l 0) 30, 1 + pickQ (rawI l 1) 4, 1 + pickQ (rawI l 2) 5, 1 + pickQ (rawI l 2) 5 + pickQ (rawI l 3) 30⟩
theorem madeC_good (l : List Int) : goodC (madeC l) = true := by
  have h0 := pickQ_range (rawI l 0) 30 (by decide)
  have h1 := pickQ_range (rawI l 1) 4 (by decide)
  have h2 := pickQ_range (rawI l 2) 5 (by decide)
  have h3 := pickQ_range (rawI l 3) 30 (by decide)
  unfold goodC madeC
  generalize pickQ (rawI l 0) 30 = a0 at *
  generalize pickQ (rawI l 1) 4 = a1 at *
  generalize pickQ (rawI l 2) 5 = a2 at *
  generalize pickQ (rawI l 3) 30 = a3 at *
  have e1 : btw (1 + a0) 1 60000 = true := by simp only [btw, decide_eq_true_eq]; omega
  have e2 : btw (1 + a1) 1 10 = true := by simp only [btw, decide_eq_true_eq]; omega
  have e3 : btw (1 + a2) 1 16 = true := by simp only [btw, decide_eq_true_eq]; omega
  have e4 : btw (1 + a2 + a3) (1 + a2) 100 = true := by simp only [btw, decide_eq_true_eq]; omega
  rw [e1, e2, e3, e4]
  rfl

set_option maxRecDepth 100000 in
set_option maxHeartbeats 1000000 in
theorem raw_any (l : List Int) (ao : Option Addr) (cap : Nat) (k : Nat) (w : World) (h : ArgI w ao l) (_hk : k < 4) (_hl : l.length ≤ 9223372036854775807) : Calls Try.prog 77 #[.slice ao l.length cap, .int .i64 k] w fun e w' => e = .returned (.int .i64 (rawI l k)) ∧ w' = w := by
  by_cases hlt : k < l.length
  · obtain ⟨v, hv⟩ : ∃ v, l[k]? = some v := ⟨_, List.getElem?_eq_getElem hlt⟩
    obtain ⟨_, b, off, rfl, _, hc⟩ := h k v hv
    have hR : rawI l k = v := by simp [rawI, List.getD, hv]
    rw [hR]
    go_enter Try.func77, Try.ntmps77
    go_wp2
    go_ret
    exact ⟨rfl, rfl⟩
  · have hR : rawI l k = 0 := by simp [rawI, List.getD, List.getElem?_eq_none (Nat.le_of_not_lt hlt)]
    rw [hR]
    go_enter Try.func77, Try.ntmps77
    go_wp2
    go_ret
    exact ⟨rfl, rfl⟩

set_option maxRecDepth 100000 in
set_option maxHeartbeats 2000000 in
theorem made_any (l : List Int) (ao : Option Addr) (cap : Nat) (w : World) (h : ArgI w ao l) (hl : l.length ≤ 9223372036854775807) : Calls Try.prog 57 #[.slice ao l.length cap] w fun e w' => e = .returned (.agg (madeC l).cells) ∧ Below w.heap.size w w' := by
  have h0 := rawI_in h 0
  have h1 := rawI_in h 1
  have h2 := rawI_in h 2
  have h3 := rawI_in h 3
  have p0 := pickQ_range (rawI l 0) 30 (by decide)
  have p1 := pickQ_range (rawI l 1) 4 (by decide)
  have p2 := pickQ_range (rawI l 2) 5 (by decide)
  have p3 := pickQ_range (rawI l 3) 30 (by decide)
  have hb1 : Below w.heap.size w (w.alloc (.cells #[.int .i64 0, .int .i64 0, .int .i64 0, .int .i64 0] 44)) := (Below.refl _ _).alloc (Nat.le_refl _) _
  have ha := h.below hb1
  have r0 := raw_any l ao cap 0 _ ha (by decide) hl
  have r1 := raw_any l ao cap 1 _ ha (by decide) hl
  have r2 := raw_any l ao cap 2 _ ha (by decide) hl
  have k0 := fun w1 => pickk_same (rawI l 0) 30 w1 h0.1 h0.2 (by decide) (by decide)
  have k1 := fun w1 => pickk_same (rawI l 1) 4 w1 h1.1 h1.2 (by decide) (by decide)
  have k2 := fun w1 => pickk_same (rawI l 2) 5 w1 h2.1 h2.2 (by decide) (by decide)
  have k3 := fun w1 => pickk_same (rawI l 3) 30 w1 h3.1 h3.2 (by decide) (by decide)
  have hC : madeC l = ⟨1 + pickQ (rawI l 0) 30, 1 + pickQ (rawI l 1) 4, 1 + pickQ (rawI l 2) 5, 1 + pickQ (rawI l 2) 5 + pickQ (rawI l 3) 30⟩ := rfl
  rw [hC]
  clear hC h0 h1 h2 h3
  generalize pickQ (rawI l 0) 30 = a0 at *
  generalize pickQ (rawI l 1) 4 = a1 at *
  generalize pickQ (rawI l 2) 5 = a2 at *
  generalize pickQ (rawI l 3) 30 = a3 at *
  go_enter Try.func57, Try.ntmps57
  go_wp2_with fail
  refine r0.mono ?_
  rintro e w1 ⟨rfl, rfl⟩
  go_wp2_with fail
  refine (k0 _).mono ?_
  rintro e w1 ⟨rfl, rfl⟩
  go_wp2_with fail
  refine r1.mono ?_
  rintro e w1 ⟨rfl, rfl⟩
  go_wp2_with fail
  refine (k1 _).mono ?_
  rintro e w1 ⟨rfl, rfl⟩
  go_wp2_with fail
  refine r2.mono ?_
  rintro e w1 ⟨rfl, rfl⟩
  go_wp2_with fail
  refine (k2 _).mono ?_
  rintro e w1 ⟨rfl, rfl⟩
  have hb2 : Below w.heap.size w ((w.alloc (.cells #[.int .i64 0, .int .i64 0, .int .i64 0, .int .i64 0] 44)).alloc (.cells #[.int .i64 (1 + a0), .int .i64 (1 + a1), .int .i64 (1 + a2), .int .i64 0] 44)).drew := ((hb1.alloc (by simp) _)).drew
  have r3 := raw_any l ao cap 3 _ (h.below hb2) (by decide) hl
  have hb3 : Below w.heap.size w ((w.alloc (.cells #[.int .i64 (1 + a0), .int .i64 (1 + a1), .int .i64 (1 + a2), .int .i64 (1 + a2 + a3)] 44)).alloc (.cells #[.int .i64 (1 + a0), .int .i64 (1 + a1), .int .i64 (1 + a2), .int .i64 (1 + a2 + a3)] 44)).drew := (((Below.refl _ _).alloc (Nat.le_refl _) _).alloc (by simp) _).drew
  clear ha r0 r1 r2 k0 k1 k2
  go_wp2_with fail
  go_region_law (first | (go_simp; go_at_call 77; refine r3.mono ?_; rintro e w1 ⟨rfl, rfl⟩) | (go_simp; go_at_call 24; refine (k3 _).mono ?_; rintro e w1 ⟨rfl, rfl⟩))
  all_goals
    go_wp2
    refine bodyPost_ret (v := .agg #[.int .i64 (1 + a0), .int .i64 (1 + a1), .int .i64 (1 + a2), .int .i64 (1 + a2 + a3)]) ?_ rfl ⟨rfl, hb3⟩
    simp [results, Try.results57, go_sem]

end Go.Proofs.Ytgcbooflhdjnhaa

/- A run that is played, as one thing; the contract of its step at the kinds that Apart plays. -/
namespace Go.Proofs.Ytgcbooflhdjnhaa
open Go.RowKit

/-- The run of number i in block b: its queue, what was seen, what holds of both. -/
def Play (X : World → (Nat → Tag) → Nat → Nat → MQ → Prop) (B : Int) (w : World) (T : Nat → Tag) (i b : Nat) (m : MQ) (L : Nat → List Nat) : Prop :=
  ∃ bx gb gc, X w T i bx m ∧ RunG w T i b bx gb gc m (itemsOf m) L ∧ m.Fit B ∧ NiceQ m L ∧ 0 < m.groups.length
theorem Play.step {X : World → (Nat → Tag) → Nat → Nat → MQ → Prop} {B Bm : Int} (hX : XC X Bm) {S : Tag → Prop} {w w' : World} {T T' : Nat → Tag} {i b : Nat} {m : MQ} {L : Nat → List Nat} (h : Play X B w T i b m L) (hs : Step S w T w' T') (hS : ∀ t, UT i t → ¬ S t) : Play X B w' T' i b m L := by
  obtain ⟨bx, gb, gc, hx, hr, hf, hq, hp⟩ := h
  exact ⟨bx, gb, gc, hX.step hx hs (fun t ht => hS t (.inl ht)), hr.step hs (fun t ht => hS t (.inr ht)), hf, hq, hp⟩
theorem Play.mono {X : World → (Nat → Tag) → Nat → Nat → MQ → Prop} {B B' : Int} {w : World} {T : Nat → Tag} {i b : Nat} {m : MQ} {L : Nat → List Nat} (h : Play X B w T i b m L) (hB : B ≤ B') : Play X B' w T i b m L := by
  obtain ⟨bx, gb, gc, hx, hr, hf, hq, hp⟩ := h
  exact ⟨bx, gb, gc, hx, hr, hf.mono hB, hq, hp⟩

theorem enqRun_rv (m : MQ) (L : Nat → List Nat) : enqRun m (m.rv L) = (menqM m (bodyN m.bodies.length)).rv L := by
  unfold enqRun menqM
  cases decide (menqE m (bodyN m.bodies.length) = 0)
  · rfl
  · simp only [cond_true]
    have e : (enqR (m.rv L) (bodyN m.bodies.length)).groups = (({ m with bodies := m.bodies ++ [bodyN m.bodies.length], groups := m.groups.map (fun g => { g with items := g.items ++ [It.zero] }), changes := wrap64 (m.changes + 1) } : MQ).rv L).groups := by
      apply List.ext_getElem?
      intro k
      unfold enqR MQ.rv
      simp only [List.getElem?_map, rvU_groups]
      cases hk : m.groups[k]? with
      | none => rfl
      | some g =>
        simp only [Option.map_some, growR]
        unfold itemsOf
        simp only [List.getElem?_map, hk, Option.map_some, seenVals_append]
        rfl
    unfold enqR MQ.rv MQ.rvU at e ⊢
    simp only at e
    simp only [List.map_append, List.map_cons, List.map_nil]
    rw [← e]

theorem menqM_glen (m : MQ) (s : ByteArray) : (menqM m s).groups.length = m.groups.length := by
  unfold menqM
  cases decide (menqE m s = 0) <;> simp

set_option maxHeartbeats 400000 in
theorem penq_any {X : World → (Nat → Tag) → Nat → Nat → MQ → Prop} {B Bm : Int} (hX : XC X Bm) (hle : B ≤ Bm) (i b : Nat) (m : MQ) (L : Nat → List Nat) (w : World) (T : Nat → Tag) (h : Play X B w T i b m L) :
    Calls Try.prog 58 #[.pointer (some ⟨b, 0, none⟩)] w fun e w' => e = .returned (.tuple #[]) ∧ ∃ T', Step (UT i) w T w' T' ∧ Play X B w' T' i b (menqM m (bodyN m.bodies.length)) L := by
  obtain ⟨bx, gb, gc, hx, hr, hf, hq, hp⟩ := h
  refine (renq_any hX hle i b bx m (m.rv L) w T hx hf hr.run rfl rfl rfl (by unfold MQ.rv; rw [rvU_blen])).mono ?_
  rintro e w' ⟨rfl, T', hs, hx', hr'⟩
  rw [enqRun_rv] at hr'
  obtain ⟨gb', gc', hr''⟩ := RunM.named hr' (by rw [menqM_glen]; exact hp)
  exact ⟨rfl, T', hs, bx, gb', gc', hx', hr'', fit_enq hf _, nice_enq hq hf, by rw [menqM_glen]; exact hp⟩

set_option maxHeartbeats 400000 in
theorem ptick_any {X : World → (Nat → Tag) → Nat → Nat → MQ → Prop} {B Bm : Int} (hX : XC X Bm) (hle : B ≤ Bm) (hlm : B ≤ 3999999999999940000) (i b : Nat) (m : MQ) (L : Nat → List Nat) (ms : Int) (w : World) (T : Nat → Tag) (h : Play X B w T i b m L) (h0 : 0 ≤ ms) (h1 : ms ≤ 60000) :
    Calls Try.prog 63 #[.pointer (some ⟨b, 0, none⟩), .int .i64 ms] w fun e w' => e = .returned (.tuple #[]) ∧ ∃ T', Step (UT i) w T w' T' ∧ Play X (B + 60000) w' T' i b (tickM m ms) L := by
  obtain ⟨bx, gb, gc, hx, hr, hf, hq, hp⟩ := h
  refine (rtick_any hX hle hlm i b bx m (m.rv L) ms w T hx hf hr.run rfl rfl h0 h1).mono ?_
  rintro e w' ⟨rfl, T', hs, hx', hr', hf'⟩
  have hb : btw ms 0 60000 = true := by simp [btw, h0, h1]
  have hM : tickM m ms = { m with time := m.time + ms } := by simp [tickM, hb]
  have hr2 : RunM w' T' i b bx ((tickM m ms).rv L) := by rw [hM]; exact hr'
  obtain ⟨gb', gc', hr''⟩ := RunM.named hr2 (by rw [hM]; exact hp)
  exact ⟨rfl, T', hs, bx, gb', gc', hx', hr'', hf', by rw [hM]; exact nice_time hq, by rw [hM]; exact hp⟩

theorem precv_any {X : World → (Nat → Tag) → Nat → Nat → MQ → Prop} {B Bm : Int} (hX : XC X Bm) (hle : B ≤ Bm) (i b : Nat) (m : MQ) (L : Nat → List Nat) (k : Nat) (g : MG) (n : Int) (w : World) (T : Nat → Tag) (h : Play X B w T i b m L) (hg : m.groups[k]? = some g) (h1 : 1 ≤ n) (h2 : n ≤ 32) :
    Calls Try.prog 59 #[.pointer (some ⟨b, 0, none⟩), .int .i64 k, .int .i64 n] w fun e w' => e = .returned (.int .i64 (recvAll m g n).out.length) ∧ ∃ T', Step (UT i) w T w' T' ∧ Play X B w' T' i b (m.setG k (recvAll m g n)) (updF L k (L k ++ offs (recvAll m g n).out)) := by
  obtain ⟨bx, gb, gc, hx, hr, hf, hq, hp⟩ := h
  refine (rrecv_any hX hle i b bx gb gc m L k g n w T hx hf hr hq hg h1 h2).mono ?_
  rintro e w' ⟨rfl, T', hs, hx', hr'⟩
  have hat := at_name hq.named hr.few hg
  have eM := (recvM_at hat hg h1 h2).1
  have hf' : (m.setG k (recvAll m g n)).Fit B := by have := fit_recv hf (nameB k) n; rw [eM] at this; exact this
  exact ⟨rfl, T', hs, bx, gb, gc, hx', hr', hf', nice_recv hq hf hg, by rw [setG_glen]; exact hp⟩

theorem rackM_glen (m : MQ) (k : Nat) (g : MG) (l : List Nat) (n : Int) : (rackM m k g l n).groups.length = m.groups.length := by
  unfold rackM
  cases decide (leasedR m.time g.items l n < 0)
  · exact setI_len
  · rfl
theorem rnackM_glen (m : MQ) (k : Nat) (g : MG) (l : List Nat) (n d : Int) : (rnackM m k g l n d).groups.length = m.groups.length := by
  unfold rnackM
  cases decide (leasedR m.time g.items l n < 0)
  · exact setI_len
  · rfl
theorem pack_any {X : World → (Nat → Tag) → Nat → Nat → MQ → Prop} {B Bm : Int} (hX : XC X Bm) (hle : B ≤ Bm) (i b : Nat) (m : MQ) (L : Nat → List Nat) (k : Nat) (g : MG) (n : Int) (w : World) (T : Nat → Tag) (h : Play X B w T i b m L) (hg : m.groups[k]? = some g) (h0 : -9223372036854775808 ≤ n) (h1 : n ≤ 9223372036854775807) :
    Calls Try.prog 60 #[.pointer (some ⟨b, 0, none⟩), .int .i64 k, .int .i64 n] w fun e w' => e = .returned (.tuple #[]) ∧ ∃ T', Step (UT i) w T w' T' ∧ Play X B w' T' i b (rackM m k g (L k) n) L := by
  obtain ⟨bx, gb, gc, hx, hr, hf, hq, hp⟩ := h
  refine (rack_any hX hle i b bx gb gc m L k g n w T hx hf hr hq hg h0 h1).mono ?_
  rintro e w' ⟨rfl, T', hs, hx', hr', hf', hq'⟩
  exact ⟨rfl, T', hs, bx, gb, gc, hx', hr', hf', hq', by rw [rackM_glen]; exact hp⟩
theorem pnack_any {X : World → (Nat → Tag) → Nat → Nat → MQ → Prop} {B Bm : Int} (hX : XC X Bm) (hle : B ≤ Bm) (i b : Nat) (m : MQ) (L : Nat → List Nat) (k : Nat) (g : MG) (n d : Int) (w : World) (T : Nat → Tag) (h : Play X B w T i b m L) (hg : m.groups[k]? = some g) (h0 : -9223372036854775808 ≤ n) (h1 : n ≤ 9223372036854775807) (hd0 : 0 ≤ d) (hd1 : d ≤ 60000) :
    Calls Try.prog 62 #[.pointer (some ⟨b, 0, none⟩), .int .i64 k, .int .i64 n, .int .i64 d] w fun e w' => e = .returned (.tuple #[]) ∧ ∃ T', Step (UT i) w T w' T' ∧ Play X B w' T' i b (rnackM m k g (L k) n d) L := by
  obtain ⟨bx, gb, gc, hx, hr, hf, hq, hp⟩ := h
  refine (rnack_any hX hle i b bx gb gc m L k g n d w T hx hf hr hq hg h0 h1 hd0 hd1).mono ?_
  rintro e w' ⟨rfl, T', hs, hx', hr', hf', hq'⟩
  exact ⟨rfl, T', hs, bx, gb, gc, hx', hr', hf', hq', by rw [rnackM_glen]; exact hp⟩

/-- what a step leaves: kinds 1, 3, 4, 5, 6 -/
def stepQ (kind n ms : Int) (k : Nat) (g : MG) (m : MQ) (L : Nat → List Nat) : MQ :=
  if kind = 1 then menqM m (bodyN m.bodies.length) else if kind = 3 then m.setG k (recvAll m g (1 + pickQ n 32)) else if kind = 4 then rackM m k g (L k) n else if kind = 5 then rnackM m k g (L k) n (pickQ ms 100) else tickM m (pickQ n 50)
def stepL (kind n : Int) (k : Nat) (g : MG) (m : MQ) (L : Nat → List Nat) : Nat → List Nat :=
  if kind = 3 then updF L k (L k ++ offs (recvAll m g (1 + pickQ n 32)).out) else L

attribute [local go_sem] over_cell

set_option maxRecDepth 100000 in
set_option maxHeartbeats 4000000 in
theorem pstep_any {X : World → (Nat → Tag) → Nat → Nat → MQ → Prop} {B Bm : Int} (hX : XC X Bm) (hle : B + 60000 ≤ Bm) (hlm : B ≤ 3999999999999940000) (i b : Nat) (m : MQ) (L : Nat → List Nat) (kind G n ms : Int) (k : Nat) (g : MG) (w : World) (T : Nat → Tag) (h : Play X B w T i b m L) (hg : m.groups[k]? = some g) (hk : pickQ G m.groups.length = k) (hK : kind = 1 ∨ kind = 3 ∨ kind = 4 ∨ kind = 5 ∨ kind = 6) (hG : i64 G) (hn : i64 n) (hms : i64 ms) :
    Calls Try.prog 27 #[.pointer (some ⟨b, 0, none⟩), .agg #[.int .i64 kind, .int .i64 G, .int .i64 n, .int .i64 ms]] w fun e w' => e = .returned (.tuple #[]) ∧ ∃ T', Step (UT i) w T w' T' ∧ Play X (B + 60000) w' T' i b (stepQ kind n ms k g m L) (stepL kind n k g m L) := by
  have hle' : B ≤ Bm := by omega
  have s1 := step_new w T (.cells #[.int .i64 kind, .int .i64 G, .int .i64 n, .int .i64 ms] 73) .free (fun _ => False)
  have hO := blk_new w T #[.int .i64 kind, .int .i64 G, .int .i64 n, .int .i64 ms] 73 .free
  have h1 := h.step hX s1 (fun _ _ h => h)
  have hpos : 0 < m.groups.length := by obtain ⟨_, _, _, _, _, _, _, hp⟩ := h; exact hp
  have h6 : m.groups.length ≤ 6 := by obtain ⟨_, _, _, _, hr, _⟩ := h; exact hr.few
  have hpk := fun w1 => (pickk_same G m.groups.length w1 hG.1 hG.2 (by omega) (by omega)).mono (fun e w' (h : _ ∧ w' = w1) => (⟨h.1, by rw [h.2]; exact Below.refl _ _⟩ : e = .returned (.int .i64 (pickQ G m.groups.length)) ∧ Below w1.heap.size w1 w'))
  rw [hk] at hpk
  go_enter Try.func27, Try.ntmps27
  go_wp2_with fail
  generalize retag T w.heap.size .free = T1 at *
  generalize w.alloc (.cells #[.int .i64 kind, .int .i64 G, .int .i64 n, .int .i64 ms] 73) = w1 at *
  generalize w.heap.size = ob at hO ⊢
  obtain ⟨bx, gb, gc, hx, hr, hf, hq, hp⟩ := id h1
  obtain ⟨c7, lb⟩ := hr.len
  have q1 := hO.cell (j := 1) rfl
  simp only [List.getElem_toArray, List.getElem_cons_succ, List.getElem_cons_zero] at q1
  have lO := hO.lt
  clear hx hr hf hq hp
  refine wp_region_over (by kernel_rfl) (by kernel_rfl) ?_
  repeat (go_big_quiet_step ((go_at_call 24; exact quiet_over hpk)))
  refine wpQuiet_nil ?_
  rintro _ ⟨x2, rfl⟩
  have g2 := step_below (fun _ => False) T1 (over_below w1 x2)
  generalize over w1 x2 = w2 at *
  have h2 := h1.step hX g2 (fun _ _ h => h)
  have hO2 := hO.step g2 (fun h => h)
  have s2 : Step (UT i) w T w2 T1 := (s1.trans g2).mono (fun _ h => h.elim)
  clear h1 hO s1 g2 q1 lO lb c7 hpk h
  have q0 := hO2.cell (j := 0) rfl
  have q2 := hO2.cell (j := 2) rfl
  have q3 := hO2.cell (j := 3) rfl
  simp only [List.getElem_toArray, List.getElem_cons_succ, List.getElem_cons_zero] at q0 q2 q3
  have lO := hO2.lt
  have ob32 := fun w1 => pickk_same n 32 w1 hn.1 hn.2 (by decide) (by decide)
  have r32 := pickQ_range n 32 (by decide)
  have ob50 := fun w1 => pickk_same n 50 w1 hn.1 hn.2 (by decide) (by decide)
  have r50 := pickQ_range n 50 (by decide)
  have ob100 := fun w1 => pickk_same ms 100 w1 hms.1 hms.2 (by decide) (by decide)
  have r100 := pickQ_range ms 100 (by decide)
  rcases hK with rfl | rfl | rfl | rfl | rfl
  · go_wp2_with fail
    refine (penq_any hX hle' i b m L w2 T1 h2).mono ?_
    rintro e w3 ⟨rfl, T3, s3, h3⟩
    go_wp2
    go_end0
    exact ⟨rfl, T3, s2.trans s3, h3.mono (by omega)⟩
  · go_wp2_with fail
    refine (ob32 _).mono ?_
    rintro e w3 ⟨rfl, rfl⟩
    have hpr := precv_any hX hle' i b m L k g (1 + pickQ n 32) _ T1 h2 hg (by omega) (by omega)
    have eQ : stepQ 3 n ms k g m L = m.setG k (recvAll m g (1 + pickQ n 32)) := by simp [stepQ]
    have eL : stepL 3 n k g m L = updF L k (L k ++ offs (recvAll m g (1 + pickQ n 32)).out) := by simp [stepL]
    generalize pickQ n 32 = p32 at *
    go_wp2_with fail
    refine hpr.mono ?_
    clear hpr
    rintro e w4 ⟨rfl, T3, s3, h3⟩
    go_wp2
    go_end0
    rw [eQ, eL]
    exact ⟨rfl, T3, s2.trans s3, h3.mono (by omega)⟩
  · go_wp2_with fail
    refine (pack_any hX hle' i b m L k g n w2 T1 h2 hg hn.1 hn.2).mono ?_
    rintro e w3 ⟨rfl, T3, s3, h3⟩
    go_wp2
    go_end0
    exact ⟨rfl, T3, s2.trans s3, h3.mono (by omega)⟩
  · have eQ : stepQ 5 n ms k g m L = rnackM m k g (L k) n (pickQ ms 100) := by simp [stepQ]
    have eL : stepL 5 n k g m L = L := by simp [stepL]
    have gdr := step_below (fun _ => False) T1 (Below.refl w2.heap.size w2).drew
    have hpn := pnack_any hX hle' i b m L k g n (pickQ ms 100) _ T1 (h2.step hX gdr (fun _ _ h => h)) hg hn.1 hn.2 (by omega) (by omega)
    generalize pickQ ms 100 = p100 at *
    go_wp2_with fail
    go_region_held3 (fun w' => w'.cell? ⟨ob, 2, none⟩ = some (.int .i64 n) ∧ w'.cell? ⟨ob, 3, none⟩ = some (.int .i64 ms)) (go_keep) (first | (go_at_call 24; refine (ob100 _).mono ?_; rintro e w3 ⟨rfl, rfl⟩) | (go_at_call 62; refine hpn.mono ?_; clear hpn; rintro e w3 ⟨rfl, T3, s3, h3⟩; have k2 := ((hO2.step gdr (fun h => h)).step s3 (by simp [UT, XT, RT])).cell (j := 2) rfl; have k3 := ((hO2.step gdr (fun h => h)).step s3 (by simp [UT, XT, RT])).cell (j := 3) rfl; simp only [List.getElem_toArray, List.getElem_cons_succ, List.getElem_cons_zero] at k2 k3))
    all_goals
      go_wp2
      go_end0
      rw [eQ, eL]
      exact ⟨rfl, T3, s2.trans ((gdr.mono (fun _ h => h.elim)).trans s3), h3.mono (by omega)⟩
  · go_wp2_with fail
    refine (ob50 _).mono ?_
    rintro e w3 ⟨rfl, rfl⟩
    have hpt := ptick_any hX hle' hlm i b m L (pickQ n 50) _ T1 h2 (by omega) (by omega)
    have eQ : stepQ 6 n ms k g m L = tickM m (pickQ n 50) := by simp [stepQ]
    have eL : stepL 6 n k g m L = L := by simp [stepL]
    generalize pickQ n 50 = p50 at *
    go_wp2_with fail
    refine hpt.mono ?_
    clear hpt
    rintro e w4 ⟨rfl, T3, s3, h3⟩
    go_wp2
    go_end0
    rw [eQ, eL]
    exact ⟨rfl, T3, s2.trans s3, h3⟩

end Go.Proofs.Ytgcbooflhdjnhaa

/- The document's queue as mathematics: Enqueue and Group; what holds of every queue stays so with each call. -/
import Derived.Test.YtockkceclkcgbaaGreatDoorB02
import Derived.Test.YtockkceclkcgbaaGreatDoorB03
import Derived.Test.YtockkceclkcgbaaGreatDoorB06
import Derived.Test.YtockkceclkcgbaaGreatDoorB05
namespace Go.Proofs.YtockkceclkcgbaaGreatDoor
open Go.RowKit

abbrev It.zero : It := ⟨0, 0, 0, 0⟩

def menqE (m : MQ) (s : ByteArray) : Int := enqY s.size m.bodies.length m.floor m.c.k
def menqM (m : MQ) (s : ByteArray) : MQ :=
  bif decide (menqE m s = 0) then { m with bodies := m.bodies ++ [s], groups := m.groups.map (fun g => { g with items := g.items ++ [It.zero] }), changes := wrap64 (m.changes + 1) } else m
def mgrpE (m : MQ) (s : ByteArray) (fr : Int) : Int :=
  bif btw s.size 1 16 then bif memB s m.names then 7 else bif decide (6 ≤ m.groups.length) then 8 else bif btw fr m.floor m.bodies.length then 0 else 9 else 6
def mgrpM (m : MQ) (s : ByteArray) (fr : Int) : MQ :=
  bif decide (mgrpE m s fr = 0) then { m with groups := m.groups ++ [⟨s, fr, List.replicate m.bodies.length It.zero, []⟩], changes := wrap64 (m.changes + 1) } else m

theorem menqM_rq (m : MQ) (s : ByteArray) : enqQ m.rq s = (menqM m s).rq := by
  unfold enqQ menqM menqE
  have e1 : m.rq.bodies.length = m.bodies.length := by simp [MQ.rq]
  have e2 : m.rq.floor = m.floor := rfl
  have e3 : m.rq.c = m.c := rfl
  rw [e1, e2, e3]
  cases decide (enqY s.size m.bodies.length m.floor m.c.k = 0)
  · rfl
  · simp only [cond_true, MQ.rq]
    simp [Function.comp_def, MG.rg, growG, itVals_append, itVals, zero4]
theorem itVals_zeros : ∀ n : Nat, itVals (List.replicate n It.zero) = zeros4 n
  | 0 => rfl
  | n + 1 => by
    rw [List.replicate_succ]
    simp only [itVals, itVals_zeros n, zeros4, It.zero]
    rw [show (n + 1) * 4 = n * 4 + 1 + 1 + 1 + 1 by omega]
    simp only [List.replicate_succ]
theorem mgrpE_rq (m : MQ) (s : ByteArray) (fr : Int) : grpY s fr m.rq = mgrpE m s fr := by
  unfold grpY mgrpE
  rw [names_rq]
  simp [MQ.rq]
theorem mgrpM_rq (m : MQ) (s : ByteArray) (fr : Int) : grpQ m.rq s fr = (mgrpM m s fr).rq := by
  unfold grpQ mgrpM
  rw [mgrpE_rq]
  cases decide (mgrpE m s fr = 0)
  · rfl
  · simp only [cond_true, MQ.rq]
    simp [MG.rg, itVals_zeros]

/-- how many messages are done or dead -/
def cnt (l : List It) : Nat := (l.filter (fun x => decide (0 < x.done))).length
theorem cnt_le (l : List It) : cnt l ≤ l.length := List.length_filter_le _ _
theorem cnt_append (a b : List It) : cnt (a ++ b) = cnt a + cnt b := by simp [cnt]
theorem cnt_set : ∀ (l : List It) (n : Nat) (x y : It), l[n]? = some x → cnt (l.set n y) + (if 0 < x.done then 1 else 0) = cnt l + (if 0 < y.done then 1 else 0)
  | [], n, x, y, h => by simp at h
  | z :: r, 0, x, y, h => by
    simp at h
    subst h
    by_cases h1 : 0 < z.done <;> by_cases h2 : 0 < y.done <;> simp [cnt, h1, h2] <;> omega
  | z :: r, n + 1, x, y, h => by
    have ih := cnt_set r n x y (by simpa using h)
    simp only [cnt, List.set_cons_succ] at ih ⊢
    by_cases h1 : 0 < z.done
    · simp only [List.filter_cons, h1, decide_true, if_true, List.length_cons]; omega
    · simp only [List.filter_cons, h1, decide_false, Bool.false_eq_true, if_false]; exact ih

/-- What holds of every queue that the law makes; B: what its time does not pass. -/
structure MQ.Fit (m : MQ) (B : Int) : Prop where
  ok : m.Ok
  cnt : ∀ g ∈ m.groups, g.dead.length ≤ cnt g.items
  time : m.time ≤ B

theorem MQ.Fit.dead {m : MQ} {B : Int} (h : m.Fit B) (hn : m.bodies.length ≤ 400) : ∀ g ∈ m.groups, g.dead.length ≤ 4000 := fun g hg => by
  have := h.cnt g hg
  have := cnt_le g.items
  have := h.ok.len g hg
  omega
theorem MQ.Fit.mono {m : MQ} {B B' : Int} (h : m.Fit B) (hB : B ≤ B') : m.Fit B' := ⟨h.ok, h.cnt, Int.le_trans h.time hB⟩
theorem fit_new (c : Conf) (h : goodC c = true) : MQ.Fit ⟨c, [], 0, [], 0, 0⟩ 0 := ⟨⟨h, by simp, by simp, by simp, by simp, by simp⟩, by simp, by simp⟩

theorem fit_enq {m : MQ} {B : Int} (h : m.Fit B) (s : ByteArray) : (menqM m s).Fit B := by
  unfold menqM
  cases decide (menqE m s = 0)
  · exact h
  · obtain ⟨⟨h1, h2, h3, h4, h5, h6⟩, h7, h8⟩ := h
    refine ⟨⟨h1, ?_, ?_, h4, ?_, ?_⟩, ?_, h8⟩
    · intro g hg
      simp at hg
      obtain ⟨g0, hg0, rfl⟩ := hg
      simp [h2 g0 hg0]
    · intro g hg n hn
      simp at hg
      obtain ⟨g0, hg0, rfl⟩ := hg
      have := h3 g0 hg0 n hn
      simp
      omega
    · simp; omega
    · intro g hg
      simp at hg
      obtain ⟨g0, hg0, rfl⟩ := hg
      have := h6 g0 hg0
      simp
      omega
    · intro g hg
      simp at hg
      obtain ⟨g0, hg0, rfl⟩ := hg
      have := h7 g0 hg0
      rw [cnt_append]
      simp only
      omega
theorem fit_grp {m : MQ} {B : Int} (h : m.Fit B) (s : ByteArray) (fr : Int) : (mgrpM m s fr).Fit B := by
  unfold mgrpM
  by_cases hE : mgrpE m s fr = 0
  · simp only [hE, decide_true, cond_true]
    obtain ⟨⟨h1, h2, h3, h4, h5, h6⟩, h7, h8⟩ := h
    have hf : m.floor ≤ fr ∧ fr ≤ m.bodies.length := by
      unfold mgrpE at hE
      cases e1 : btw s.size 1 16 <;> cases e2 : memB s m.names <;> cases e3 : decide (6 ≤ m.groups.length) <;> cases e4 : btw fr m.floor m.bodies.length <;> simp [e1, e2, e3, e4] at hE
      exact btw_true e4
    refine ⟨⟨h1, ?_, ?_, h4, h5, ?_⟩, ?_, h8⟩
    · intro g hg
      rcases List.mem_append.1 hg with hg | hg
      · exact h2 g hg
      · simp at hg; subst hg; simp
    · intro g hg n hn
      rcases List.mem_append.1 hg with hg | hg
      · exact h3 g hg n hn
      · simp at hg; subst hg; cases hn
    · intro g hg
      rcases List.mem_append.1 hg with hg | hg
      · exact h6 g hg
      · simp at hg; subst hg; simp; omega
    · intro g hg
      rcases List.mem_append.1 hg with hg | hg
      · exact h7 g hg
      · simp at hg; subst hg; simp
  · simp only [hE, decide_false, cond_false]
    exact h

theorem fit_setI {m : MQ} {B : Int} {k n : Nat} {g : MG} {x y : It} (h : m.Fit B) (hg : m.groups[k]? = some g) (hx : g.items[n]? = some x) (hxy : 0 < x.done → 0 < y.done) : (m.setI k n y).Fit B := by
  refine ⟨setI_ok h.ok, fun g' hg' => ?_, h.time⟩
  obtain ⟨j, hj⟩ := List.getElem?_of_mem hg'
  rw [setI_group] at hj
  obtain ⟨g0, h0, rfl⟩ := Option.map_eq_some_iff.1 hj
  have hc := h.cnt g0 (List.mem_of_getElem? h0)
  by_cases hk : k = j
  · subst hk
    rw [hg] at h0
    cases h0
    have := cnt_set g.items n x y hx
    simp only [if_true]
    by_cases h1 : 0 < x.done
    · have h2 := hxy h1
      simp only [h1, h2, if_true] at this
      omega
    · simp only [h1, if_false] at this
      split at this <;> omega
  · simp only [hk, if_false]
    exact hc
theorem fit_changes {m : MQ} {B v : Int} (h : m.Fit B) : MQ.Fit { m with changes := v } B := ⟨⟨h.ok.good, h.ok.len, h.ok.dead, h.ok.time, h.ok.fl, h.ok.start⟩, h.cnt, h.time⟩
theorem fit_onLeased {m : MQ} {B : Int} (h : m.Fit B) (s : ByteArray) (off tr : Int) (f : It → It) (hf : ∀ x, 0 < x.done → 0 < (f x).done) (hE : leasedE m s off tr = 0) : (onLeased m s off 0 f).Fit B := by
  obtain ⟨k, n, g, x, ha, hg, rfl, hx, _, _⟩ := leased_found h.ok hE
  rw [onLeased_ok ha hg hx]
  exact fit_setI h hg hx (hf x)
theorem fit_ack {m : MQ} {B : Int} (h : m.Fit B) (s : ByteArray) (off tr : Int) : (ackM m s off tr).Fit B := by
  unfold ackM
  by_cases hE : leasedE m s off tr = 0
  · simp only [hE, decide_true, cond_true]
    exact fit_changes (fit_onLeased h s off tr (fun x => { x with done := 1 }) (fun _ _ => by simp) hE)
  · simp only [hE, decide_false, cond_false]
    exact h
theorem ranged_leased {m : MQ} {s : ByteArray} {off tr n lo : Int} (h : rangedE m s off tr n lo = 0) : leasedE m s off tr = 0 := by
  unfold rangedE at h
  cases hc : ((m.at s).isSome && !btw n lo 60000)
  · rw [hc] at h; exact h
  · rw [hc] at h; simp at h
theorem fit_nack {m : MQ} {B : Int} (h : m.Fit B) (s : ByteArray) (off tr d : Int) : (nackM m s off tr d).Fit B := by
  unfold nackM
  by_cases hE : rangedE m s off tr d 0 = 0
  · simp only [hE, decide_true, cond_true]
    exact fit_onLeased h s off tr _ (fun _ h => h) (ranged_leased hE)
  · simp only [hE, decide_false, cond_false]
    exact h
theorem fit_extend {m : MQ} {B : Int} (h : m.Fit B) (s : ByteArray) (off tr d : Int) : (extendM m s off tr d).Fit B := by
  unfold extendM
  by_cases hE : rangedE m s off tr d 1 = 0
  · simp only [hE, decide_true, cond_true]
    exact fit_onLeased h s off tr _ (fun _ h => h) (ranged_leased hE)
  · simp only [hE, decide_false, cond_false]
    exact h
theorem fit_tick {m : MQ} {B : Int} (h : m.Fit B) (d : Int) (hB : B ≤ 3999999999999940000) : (tickM m d).Fit (B + 60000) := by
  unfold tickM
  cases hb : btw d 0 60000
  · exact h.mono (by omega)
  · have h1 := btw_true hb
    have h2 := h.time
    have h3 := h.ok.time
    exact ⟨⟨h.ok.good, h.ok.len, h.ok.dead, by simp only [cond_true]; omega, h.ok.fl, h.ok.start⟩, h.cnt, by simp only [cond_true]; omega⟩
theorem fit_retain {m : MQ} {B : Int} (h : m.Fit B) : (retainM m).Fit B := by
  unfold retainM
  cases retainB m
  · have := retainTo_le m h.ok.good
    exact ⟨⟨h.ok.good, h.ok.len, h.ok.dead, h.ok.time, this, h.ok.start⟩, h.cnt, h.time⟩
  · exact h

structure RS.Fit (st : RS) (N : Nat) : Prop where
  len : st.items.length = N
  dead : ∀ n ∈ st.dead, n < N
  cnt : st.dead.length ≤ cnt st.items

theorem fit_recvOne {m : MQ} {start : Int} {st : RS} {n N : Nat} {x : It} (h : st.Fit N) (hx : st.items[n]? = some x) : (recvOne m start st n x).Fit N := by
  have hlt := (List.getElem?_eq_some_iff.1 hx).1
  unfold recvOne
  cases hp : passed m start n x
  · have hd : ¬ 0 < x.done := by
      intro hd
      simp [passed, hd] at hp
    simp only [cond_false]
    by_cases hE : m.c.d ≤ x.tries
    · simp only [hE, decide_true, cond_true]
      have hc := cnt_set st.items n x { x with done := 2 } hx
      simp only [hd, if_false] at hc
      refine ⟨by simp [h.len], fun k hk => ?_, ?_⟩
      · rcases List.mem_append.1 hk with hk | hk
        · exact h.dead k hk
        · simp at hk; have := h.len; omega
      · have := h.cnt
        simp only [List.length_append, List.length_cons, List.length_nil]
        simp at hc
        omega
    · simp only [hE, decide_false, cond_false]
      have hc := cnt_set st.items n x { x with tries := wrap64 (x.tries + 1), till := m.time + m.c.l } hx
      simp only [hd, if_false] at hc
      refine ⟨by simp [h.len], h.dead, ?_⟩
      have := h.cnt
      simp only at hc ⊢
      omega
  · exact h
theorem fit_recvStep {m : MQ} {start : Int} {fr : List Nat} {st : RS} {k N : Nat} (h : st.Fit N) : (recvStep m start fr st k).Fit N := by
  unfold recvStep
  cases decide (k < m.bodies.length)
  · simp only [cond_false]
    cases fr[k - m.bodies.length]? with
    | none => exact h
    | some n =>
      simp only
      cases hx : st.items[n]? with
      | none => exact h
      | some x => exact fit_recvOne h hx
  · simp only [cond_true]
    cases hx : st.items[k]? with
    | none => exact h
    | some x =>
      simp only
      cases decide (x.tries = 0)
      · exact fit_recvOne h hx
      · exact h
theorem fit_recvRun {m : MQ} {start : Int} {fr : List Nat} {n : Int} {N : Nat} : ∀ (f k : Nat) (st : RS), st.Fit N → (recvRun m start fr n f k st).Fit N
  | 0, _, _, h => h
  | f + 1, k, st, h => by
    unfold recvRun
    cases decide (n ≤ st.out.length)
    · exact fit_recvRun f (k + 1) _ (fit_recvStep h)
    · exact h
theorem fit_recv {m : MQ} {B : Int} (h : m.Fit B) (s : ByteArray) (n : Int) : (recvM m s n).Fit B := by
  unfold recvM
  cases ha : m.at s with
  | none => exact h
  | some k =>
    simp only
    cases hg : m.groups[k]? with
    | none => exact h
    | some g =>
      simp only
      cases btw n 1 32
      · exact h
      · have hm := List.mem_of_getElem? hg
        have hf : (recvAll m g n).Fit m.bodies.length := fit_recvRun _ _ _ ⟨h.ok.len g hm, h.ok.dead g hm, h.cnt g hm⟩
        refine ⟨setG_ok h.ok hf.len hf.dead, fun g' hg' => ?_, h.time⟩
        obtain ⟨j, hj⟩ := List.getElem?_of_mem hg'
        simp only [cond_true] at hj
        rw [setG_group] at hj
        obtain ⟨g0, h0, rfl⟩ := Option.map_eq_some_iff.1 hj
        by_cases hk : k = j
        · simp only [hk, if_true]; exact hf.cnt
        · simp only [hk, if_false]; exact h.cnt g0 (List.mem_of_getElem? h0)

end Go.Proofs.YtockkceclkcgbaaGreatDoor

/- Contracts of the law's markDelivery and of sameDeliveries of two lists that read alike. -/
namespace Go.Proofs.YtockkceclkcgbaaGreatDoor
open Go.RowKit

/-- the caller's words in a delivery -/
def callers : ByteArray := ⟨#[116, 104, 101, 32, 99, 97, 108, 108, 101, 114, 39, 115]⟩

set_option maxHeartbeats 400000 in
theorem markD_any (n : Int) (w : World) (h0 : 0 ≤ n) (h1 : n ≤ 1000000000000000) :
    Calls Tryz.prog 87 #[.int .i64 n] w fun e w' => e = .returned (.agg #[.int .i64 (-1000 - n), .int .i64 0, .string callers]) ∧ Below w.heap.size w w' ∧ w.heap.size < w'.heap.size := by
  go_enter Tryz.func87, Tryz.ntmps87
  go_wp2
  refine bodyPost_ret (v := .agg #[.int .i64 (-1000 - n), .int .i64 0, .string callers]) ?_ rfl ⟨rfl, (Below.refl _ _).alloc (Nat.le_refl _) _, by simp⟩
  simp [results, Tryz.results87, go_sem, callers]

theorem dlVals_at : ∀ (l : List Dl) (k : Nat) (x : Dl), l[k]? = some x → (dlVals l)[k * 3]? = some (.int .i64 x.off) ∧ (dlVals l)[k * 3 + 1]? = some (.int .i64 x.tr) ∧ (dlVals l)[k * 3 + 2]? = some (.string x.body)
  | [], _, _, h => by simp at h
  | y :: r, 0, x, h => by simp at h; subst h; simp [dlVals]
  | y :: r, k + 1, x, h => by
    have h2 := dlVals_at r k x (by simpa using h)
    have e : ∀ j, (k + 1) * 3 + j = (k * 3 + j) + 3 := fun j => by omega
    refine ⟨?_, ?_, ?_⟩
    · rw [show (k + 1) * 3 = k * 3 + 3 by omega]; simpa [dlVals] using h2.1
    · rw [e]; simpa [dlVals] using h2.2.1
    · rw [e]; simpa [dlVals] using h2.2.2

attribute [local go_sem] over_cell

set_option maxRecDepth 100000 in
set_option maxHeartbeats 1000000 in
theorem sameD_any (l : List Dl) (v v' : Value) (T T' : Nat → Tag) (t t' : Tag) (w : World) (h1 : Row w T t 82 3 v l.length (dlVals l)) (h2 : Row w T' t' 82 3 v' l.length (dlVals l)) (hlen : l.length ≤ 4000000) :
    Calls Tryz.prog 51 #[v, v'] w fun e w' => e = .returned (.bool true) ∧ Below w.heap.size w w' := by
  obtain ⟨ao, cap, rfl⟩ := row_form h1
  obtain ⟨ao', cap', rfl⟩ := row_form h2
  go_enter Tryz.func51, Tryz.ntmps51
  go_wp2
  go_loopw [5] (fun i wr => ∃ k : Nat, k ≤ l.length ∧ i = .int .i64 k ∧ Below w.heap.size w wr) (fun i _ => l.length - (intOf i).toNat)
  case atStart => exact ⟨0, Nat.zero_le _, rfl, Below.refl _ _⟩
  case round =>
    obtain ⟨k, hk, rfl, hb⟩ := hrel
    by_cases hlt : k < l.length
    · obtain ⟨x, hx⟩ : ∃ x, l[k]? = some x := ⟨_, List.getElem?_eq_getElem hlt⟩
      obtain ⟨a, ca, e⟩ := row_some h1 (by omega)
      cases e
      obtain ⟨a', ca', e⟩ := row_some h2 (by omega)
      cases e
      have l1 := h1.lt
      have l2 := h2.lt
      obtain ⟨d0, d1, d2⟩ := dlVals_at l k x hx
      have c0 := (hb.cell (p := ⟨a, k * 3, none⟩) l1).trans (h1.cell d0)
      have c1 := (hb.cell (p := ⟨a, k * 3 + 1, none⟩) l1).trans (h1.cell d1)
      have c2 := (hb.cell (p := ⟨a, k * 3 + 2, none⟩) l1).trans (h1.cell d2)
      have b0 := (hb.cell (p := ⟨a', k * 3, none⟩) l2).trans (h2.cell d0)
      have b1 := (hb.cell (p := ⟨a', k * 3 + 1, none⟩) l2).trans (h2.cell d1)
      have b2 := (hb.cell (p := ⟨a', k * 3 + 2, none⟩) l2).trans (h2.cell d2)
      have m1 := Nat.lt_of_lt_of_le l1 hb.size
      have m2 := Nat.lt_of_lt_of_le l2 hb.size
      clear d0 d1 d2
      go_wp2_with fail
      refine wp_region_over (by kernel_rfl) (by kernel_rfl) ?_
      repeat (go_big_quiet_step (fail))
      refine wpQuiet_nil ?_
      rintro _ ⟨x5, rfl⟩
      have hov := hb.trans ((over_below wr x5).mono hb.size)
      generalize over wr x5 = w5 at *
      go_wp2
      exact ⟨⟨k + 1, by omega, by simp, hov⟩, by simp [intOf]; omega⟩
    · go_wp2
      go_ret
      exact ⟨rfl, hb⟩

end Go.Proofs.YtockkceclkcgbaaGreatDoor

/- The caller's book of lists under tags: what it holds, that it stays while other memory is written; lists being written full; sameRanges of two lists that read alike. -/
namespace Go.Proofs.YtockkceclkcgbaaGreatDoor
open Go.RowKit

/-- A list in the book, of tag t: its cells hold the pattern. -/
def Mk (w : World) (T : Nat → Tag) (t : Tag) (size : Nat) (pat : Nat → Value) (v : Value) : Prop :=
  ∃ ao n cap, v = .slice ao n cap ∧ n ≤ 1099511627776 ∧ (n = 0 ∨ ∃ b, ao = some ⟨b, 0, none⟩ ∧ T b = t ∧ b < w.heap.size ∧ Pat w b pat (n * size))

theorem Mk.step {S : Tag → Prop} {w w' : World} {T T' : Nat → Tag} {t : Tag} {size : Nat} {pat : Nat → Value} {v : Value} (h : Mk w T t size pat v) (hs : Step S w T w' T') (ht : ¬ S t) : Mk w' T' t size pat v := by
  obtain ⟨ao, n, cap, e, hn, h | ⟨b, hb, hT, hlt, hp⟩⟩ := h
  · exact ⟨ao, n, cap, e, hn, .inl h⟩
  · refine ⟨ao, n, cap, e, hn, .inr ⟨b, hb, (hs.tag b hlt).trans hT, Nat.lt_of_lt_of_le hlt hs.size, fun j hj => ?_⟩⟩
    rw [hs.cell (p := ⟨b, j, none⟩) hlt (by rw [hT]; exact ht)]
    exact hp j hj

/-- One of the book's two rows: 4 times q lists, those of number i / 4 under a tag of their own. -/
def Bk (w : World) (T : Nat → Tag) (c : Nat) (e : TypeId) (size : Nat) (pat : Nat → Nat → Value) (v : Value) (q : Nat) : Prop :=
  ∃ vs, Row w T ⟨c, 0, 0, 0⟩ e 1 v (4 * q) vs ∧ ∀ i u, vs[i]? = some u → Mk w T ⟨c + 1, i / 4, 0, 0⟩ size (pat (i / 4)) u

theorem Bk.step {S : Tag → Prop} {w w' : World} {T T' : Nat → Tag} {c : Nat} {e : TypeId} {size : Nat} {pat : Nat → Nat → Value} {v : Value} {q : Nat} (h : Bk w T c e size pat v q) (hs : Step S w T w' T') (h0 : ¬ S ⟨c, 0, 0, 0⟩) (h1 : ∀ k, k < q → ¬ S ⟨c + 1, k, 0, 0⟩) : Bk w' T' c e size pat v q := by
  obtain ⟨vs, hR, hm⟩ := h
  refine ⟨vs, hR.step hs h0, fun i u hu => (hm i u hu).step hs (h1 _ ?_)⟩
  have := (List.getElem?_eq_some_iff.1 hu).1
  have := hR.1.1
  omega
theorem bk_nil (w : World) (T : Nat → Tag) (c : Nat) (e : TypeId) (size : Nat) (pat : Nat → Nat → Value) : Bk w T c e size pat (.slice none 0 0) 0 := ⟨[], row_nil _ _ _ _ _, by simp⟩

/-- What a list's keeping may write. -/
def KeepS (c q : Nat) (s : Tag) : Prop := s = .world ∨ s = ⟨c, 0, 0, 0⟩ ∨ s = ⟨c + 1, q, 0, 0⟩

/-- The tags with all new blocks under t. -/
def fresh (w : World) (T : Nat → Tag) (t : Tag) : Nat → Tag := fun k => if k < w.heap.size then T k else t
theorem fresh_old {w : World} {T : Nat → Tag} {t : Tag} {k : Nat} (h : k < w.heap.size) : fresh w T t k = T k := by simp [fresh, h]
theorem fresh_new {w : World} {T : Nat → Tag} {t : Tag} {k : Nat} (h : w.heap.size ≤ k) : fresh w T t k = t := by simp [fresh, show ¬ k < w.heap.size by omega]

/-- a list in a row of its own, ready to be written -/
theorem row_ls {w : World} {T : Nat → Tag} {t : Tag} {e : TypeId} {size : Nat} {ao : Option Addr} {n cap : Nat} {xs : List Value} (h : Row w T t e size (.slice ao n cap) n xs) (pat : Nat → Value) :
    ∃ g, Ls w e size g pat ao 0 cap ∧ n ≤ cap ∧ (ao = none → n = 0) ∧ g ≤ w.heap.size ∧ fresh w T t g = t := by
  rcases h.1.2 with ⟨e, rfl⟩ | ⟨g, cap', cur, e, _, hg, h1, h2, h3, _⟩
  · cases e
    exact ⟨w.heap.size, .inl ⟨rfl, rfl, rfl⟩, Nat.le_refl _, fun _ => rfl, Nat.le_refl _, fresh_new (Nat.le_refl _)⟩
  · cases e
    have hlt := (Array.getElem?_eq_some_iff.1 hg).1
    exact ⟨g, .inr ⟨rfl, Nat.zero_le _, h2, fun j hj => by omega, cur, hg, h3⟩, h1, (fun e => by cases e), Nat.le_of_lt hlt, (fresh_old hlt).trans (h.2 g rfl)⟩

theorem Ls.lt {w : World} {e : TypeId} {size g : Nat} {pat : Nat → Value} {ao : Option Addr} {k cap : Nat} (h : Ls w e size g pat ao k cap) (hne : ao ≠ none) : g < w.heap.size ∧ ao = some ⟨g, 0, none⟩ := by
  rcases h with ⟨e, _⟩ | ⟨e, _, _, _, cur, hg, _⟩
  · exact absurd e hne
  · exact ⟨(Array.getElem?_eq_some_iff.1 hg).1, e⟩
theorem Ls.cells {w : World} {e : TypeId} {size g : Nat} {pat : Nat → Value} {ao : Option Addr} {k cap : Nat} (h : Ls w e size g pat ao k cap) (hne : ao ≠ none) (j : Nat) (hj : j < cap * size) : (∃ u, w.cell? ⟨g, j, none⟩ = some u) ∧ w.frozen? ⟨g, j, none⟩ = false := by
  rcases h with ⟨e, _⟩ | ⟨e, h2, h3, hp, cur, hg, hs⟩
  · exact absurd e hne
  · refine ⟨⟨cur[j]'(by omega), ?_⟩, by simp [World.frozen?, hg]⟩
    simp [World.cell?, hg, show j < cur.size by omega]
/-- the next cell, written as the pattern asks -/
theorem Ls.put {w : World} {e : TypeId} {size g : Nat} {pat : Nat → Value} {ao : Option Addr} {cap : Nat} (_hne : ao ≠ none) (j : Nat) (hj : j < cap * size) (v : Value) (hv : v = pat j)
    (h : ao = some ⟨g, 0, none⟩ ∧ cap ≤ maxLen ∧ Pat w g pat j ∧ ∃ cur, w.heap[g]? = some (.cells cur e (0, 0)) ∧ cur.size = cap * size) :
    ao = some ⟨g, 0, none⟩ ∧ cap ≤ maxLen ∧ Pat (w.setCell ⟨g, j, none⟩ v) g pat (j + 1) ∧ ∃ cur, (w.setCell ⟨g, j, none⟩ v).heap[g]? = some (.cells cur e (0, 0)) ∧ cur.size = cap * size := by
  obtain ⟨e, h3, hp, cur, hg, hs⟩ := h
  have hh := heap_setCell_same w g j cur _ v hg
  refine ⟨e, h3, fun i hi => ?_, _, hh, by simpa using hs⟩
  simp only [World.cell?, hh, Option.isSome_none, Bool.false_eq_true, if_false]
  by_cases h0 : i = j
  · subst h0
    rw [Array.getElem?_setIfInBounds_self_of_lt (by omega), hv]
  · rw [Array.getElem?_setIfInBounds_ne (fun x => h0 x.symm)]
    have := hp i (by omega)
    simpa [World.cell?, hg] using this

/-- What stands in memory while a list is written full: the list, and the mark in block mb. -/
structure KS (w wx : World) (e : TypeId) (size : Nat) (pat : Nat → Value) (g mb : Nat) (mc : Array Value) (ao : Option Addr) (k cap : Nat) : Prop where
  kept : Kept (fun b => b = g) w wx
  ls : Ls wx e size g pat ao k cap
  box : wx.heap[mb]? = some (.cells mc e (0, 0))
  ne : mb ≠ g

theorem KS.lt {w wx : World} {e : TypeId} {size g mb : Nat} {pat : Nat → Value} {mc : Array Value} {ao : Option Addr} {k cap : Nat} (h : KS w wx e size pat g mb mc ao k cap) : mb < wx.heap.size := by
  rcases Nat.lt_or_ge mb wx.heap.size with h1 | h1
  · exact h1
  · have := h.box; rw [Array.getElem?_eq_none h1] at this; cases this
theorem KS.cell {w wx : World} {e : TypeId} {size g mb : Nat} {pat : Nat → Value} {mc : Array Value} {ao : Option Addr} {k cap : Nat} (h : KS w wx e size pat g mb mc ao k cap) {j : Nat} {u : Value} (hj : mc[j]? = some u) : wx.cell? ⟨mb, j, none⟩ = some u := by
  simp [World.cell?, h.box, hj]
theorem KS.on {w wx wy : World} {e : TypeId} {size g mb : Nat} {pat : Nat → Value} {mc : Array Value} {ao : Option Addr} {k k' cap : Nat} (h : KS w wx e size pat g mb mc ao k cap) (hk : Kept (fun b => b = g) wx wy) (hls : Ls wy e size g pat ao k' cap) : KS w wy e size pat g mb mc ao k' cap :=
  ⟨h.kept.trans hk (fun _ _ x => x), hls, by rw [hk.block mb h.lt h.ne]; exact h.box, h.ne⟩
theorem KS.alloc {w wx : World} {e : TypeId} {size g mb : Nat} {pat : Nat → Value} {mc : Array Value} {ao : Option Addr} {k cap : Nat} (h : KS w wx e size pat g mb mc ao k cap) (o : Obj) : KS w (wx.alloc o) e size pat g mb mc ao k cap :=
  have hb := (Below.refl wx.heap.size wx).alloc (Nat.le_refl _) o
  h.on (kept_of_below _ hb) (h.ls.kept (kept_of_below (fun _ => False) hb) (fun x => x))

/-- One of the longer lists stays marked while another one is made. -/
theorem pat_on {w w' : World} {g b : Nat} {pat : Nat → Value} {k : Nat} (h : Pat w b pat k) (hb : b < w.heap.size) (hk : Kept (fun x => x = g) w w') (hg : ∀ k, g < w.heap.size → Pat w g pat k → Pat w' g pat k) : Pat w' b pat k := by
  by_cases e : b = g
  · subst e; exact hg k hb h
  · exact h.kept hk hb e
theorem pat_next {w2 w3 : World} {o : Obj} {g b : Nat} {pat : Nat → Value} {k : Nat} (h : Pat w2 b pat k) (hb : b < w2.heap.size) (kp : Kept (fun x => x = g) (w2.alloc o) w3)
    (pr : ∀ k, g < (w2.alloc o).heap.size → Pat (w2.alloc o) g pat k → Pat w3 g pat k) : Pat w3 b pat k ∧ b < w3.heap.size := by
  have hb2 := (Below.refl w2.heap.size w2).alloc (Nat.le_refl _) o
  have h2 : Pat (w2.alloc o) b pat k := h.kept (kept_of_below (fun _ => False) hb2) hb (fun x => x)
  exact ⟨pat_on h2 (Nat.lt_of_lt_of_le hb hb2.size) kp pr, Nat.lt_of_lt_of_le hb (Nat.le_trans hb2.size kp.size)⟩

theorem mk_of {w4 : World} {T : Nat → Tag} {t : Tag} {size : Nat} {pat : Nat → Value} {b n cap : Nat} (hn : n ≤ 1099511627776) (hp : Pat w4 b pat (n * size)) (hb : b < w4.heap.size) (h : T b = t) : Mk w4 T t size pat (.slice (some ⟨b, 0, none⟩) n cap) :=
  ⟨_, n, cap, rfl, hn, .inr ⟨b, rfl, h, hb, hp⟩⟩
theorem ls_mk {wx : World} {T : Nat → Tag} {t : Tag} {e : TypeId} {size g : Nat} {pat : Nat → Value} {ao : Option Addr} {n cap : Nat} (h : Ls wx e size g pat ao n cap) (hn : n ≤ 1099511627776) (ht : T g = t) : Mk wx T t size pat (.slice ao n cap) := by
  refine ⟨ao, n, cap, rfl, hn, ?_⟩
  rcases h with ⟨_, h, _⟩ | ⟨e, _, _, hp, cur, hg, _⟩
  · exact .inl h
  · exact .inr ⟨g, e, ht, (Array.getElem?_eq_some_iff.1 hg).1, hp⟩
theorem news_blk (w : World) (cs : Array Value) (e : TypeId) (l : List Value) (h : cs.toList = l) : ∀ j u, l[j]? = some u → (w.alloc (.cells cs e)).cell? ((⟨w.heap.size, 0, none⟩ : Addr).add j) = some u := by
  rw [← h]; exact World.news_of_block (cs := cs) (heap_alloc_new w _)

/-- the step up to the four lists' being there -/
theorem step_keep {w w6 : World} {T : Nat → Tag} {t : Tag} {g : Nat} (hk : Kept (fun b => b = g) w w6) (hg : fresh w T t g = t) : Step (fun s => s = t) w T w6 (fresh w T t) :=
  step_kept hk (fun k hlt e => by subst e; rw [fresh_old hlt] at hg; exact hg) (fun k hk => fresh_old hk)

/-- What the book is when four lists more have come in. -/
theorem keep_end {w6 w7 w8 w9 : World} {T1 T8 : Nat → Tag} {c q : Nat} {e : TypeId} {size : Nat} {pat : Nat → Nat → Value} {v' : Value} {l1 l2 l3 l4 : Value} {vs : List Value}
    (hm : ∀ i u, vs[i]? = some u → Mk w6 T1 ⟨c + 1, i / 4, 0, 0⟩ size (pat (i / 4)) u) (hl : vs.length = 4 * q)
    (m1 : Mk w6 T1 ⟨c + 1, q, 0, 0⟩ size (pat q) l1) (m2 : Mk w6 T1 ⟨c + 1, q, 0, 0⟩ size (pat q) l2) (m3 : Mk w6 T1 ⟨c + 1, q, 0, 0⟩ size (pat q) l3) (m4 : Mk w6 T1 ⟨c + 1, q, 0, 0⟩ size (pat q) l4)
    (h7 : Step (fun _ => False) w6 T1 w7 T1) (h8 : Step (fun s => s = ⟨c, 0, 0, 0⟩) w7 T1 w8 T8) (hR : Row w8 T8 ⟨c, 0, 0, 0⟩ e 1 v' (4 * q + 4) (vs ++ [l1, l2, l3, l4])) (h9 : Step (fun s => s = .world) w8 T8 w9 T8) (hc : c ≠ 2 ∧ c + 1 ≠ 2) :
    Bk w9 T8 c e size pat v' (q + 1) := by
  have hs : Step (fun s => s = .world ∨ s = ⟨c, 0, 0, 0⟩) w6 T1 w9 T8 := ((h7.mono (fun _ h => h.elim)).trans (h8.mono (fun _ h => .inr h))).trans (h9.mono (fun _ h => .inl h))
  have hn : ∀ k, ¬ ((⟨c + 1, k, 0, 0⟩ : Tag) = .world ∨ (⟨c + 1, k, 0, 0⟩ : Tag) = ⟨c, 0, 0, 0⟩) := by
    rintro k (h | h)
    · have := congrArg Tag.c h; simp at this; omega
    · have := congrArg Tag.c h; simp at this
  refine ⟨vs ++ [l1, l2, l3, l4], hR.step h9 (fun h => ?_), fun i u hu => ?_⟩
  · have := congrArg Tag.c h; simp at this; omega
  · by_cases hi : i < 4 * q
    · rw [List.getElem?_append_left (by omega)] at hu
      exact (hm i u hu).step hs (hn _)
    · rw [List.getElem?_append_right (by omega)] at hu
      have hi4 : i - vs.length < 4 := by
        have := (List.getElem?_eq_some_iff.1 hu).1
        simpa using this
      have hq : i / 4 = q := by omega
      rw [hq]
      generalize i - vs.length = t at *
      match t, hi4, hu with
      | 0, _, hv => simp at hv; subst hv; exact m1.step hs (hn _)
      | 1, _, hv => simp at hv; subst hv; exact m2.step hs (hn _)
      | 2, _, hv => simp at hv; subst hv; exact m3.step hs (hn _)
      | 3, _, hv => simp at hv; subst hv; exact m4.step hs (hn _)

theorem pairVals_at : ∀ (l : List (Int × Int)) (k : Nat) (x : Int × Int), l[k]? = some x → (pairVals l)[k * 2]? = some (.int .i64 x.1) ∧ (pairVals l)[k * 2 + 1]? = some (.int .i64 x.2)
  | [], _, _, h => by simp at h
  | y :: r, 0, x, h => by simp at h; subst h; simp [pairVals]
  | y :: r, k + 1, x, h => by
    have h2 := pairVals_at r k x (by simpa using h)
    have e : ∀ j, (k + 1) * 2 + j = (k * 2 + j) + 2 := fun j => by omega
    refine ⟨?_, ?_⟩
    · rw [show (k + 1) * 2 = k * 2 + 2 by omega]; simpa [pairVals] using h2.1
    · rw [e]; simpa [pairVals] using h2.2

attribute [local go_sem] over_cell

set_option maxRecDepth 100000 in
set_option maxHeartbeats 1000000 in
theorem sameR_any (l : List (Int × Int)) (v v' : Value) (T T' : Nat → Tag) (t t' : Tag) (w : World) (h1 : Row w T t 69 2 v l.length (pairVals l)) (h2 : Row w T' t' 69 2 v' l.length (pairVals l)) (hlen : l.length ≤ 4000000) :
    Calls Tryz.prog 48 #[v, v'] w fun e w' => e = .returned (.bool true) ∧ Below w.heap.size w w' := by
  obtain ⟨ao, cap, rfl⟩ := row_form h1
  obtain ⟨ao', cap', rfl⟩ := row_form h2
  go_enter Tryz.func48, Tryz.ntmps48
  go_wp2
  go_loopw [5] (fun i wr => ∃ k : Nat, k ≤ l.length ∧ i = .int .i64 k ∧ Below w.heap.size w wr) (fun i _ => l.length - (intOf i).toNat)
  case atStart => exact ⟨0, Nat.zero_le _, rfl, Below.refl _ _⟩
  case round =>
    obtain ⟨k, hk, rfl, hb⟩ := hrel
    by_cases hlt : k < l.length
    · obtain ⟨x, hx⟩ : ∃ x, l[k]? = some x := ⟨_, List.getElem?_eq_getElem hlt⟩
      obtain ⟨a, ca, e⟩ := row_some h1 (by omega)
      cases e
      obtain ⟨a', ca', e⟩ := row_some h2 (by omega)
      cases e
      have l1 := h1.lt
      have l2 := h2.lt
      obtain ⟨d0, d1⟩ := pairVals_at l k x hx
      have c0 := (hb.cell (p := ⟨a, k * 2, none⟩) l1).trans (h1.cell d0)
      have c1 := (hb.cell (p := ⟨a, k * 2 + 1, none⟩) l1).trans (h1.cell d1)
      have b0 := (hb.cell (p := ⟨a', k * 2, none⟩) l2).trans (h2.cell d0)
      have b1 := (hb.cell (p := ⟨a', k * 2 + 1, none⟩) l2).trans (h2.cell d1)
      have m1 := Nat.lt_of_lt_of_le l1 hb.size
      have m2 := Nat.lt_of_lt_of_le l2 hb.size
      clear d0 d1
      go_wp2_with fail
      refine wp_region_over (by kernel_rfl) (by kernel_rfl) ?_
      repeat (go_big_quiet_step (fail))
      refine wpQuiet_nil ?_
      rintro _ ⟨x5, rfl⟩
      have hov := hb.trans ((over_below wr x5).mono hb.size)
      generalize over wr x5 = w5 at *
      go_wp2
      exact ⟨⟨k + 1, by omega, by simp, hov⟩, by simp [intOf]; omega⟩
    · go_wp2
      go_ret
      exact ⟨rfl, hb⟩

end Go.Proofs.YtockkceclkcgbaaGreatDoor

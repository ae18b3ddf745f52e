/- The document's queue as mathematics: Enqueue and Group; what holds of every queue stays so with each call. -/
import Derived.Test.YtgcbooflhdjnhaaT07
import Derived.Test.YtgcbooflhdjnhaaT08
import Derived.Test.YtgcbooflhdjnhaaT14
namespace Go.Proofs.Ytgcbooflhdjnhaa
open Go.RowKit

abbrev It.zero : It := ⟨0, 0, 0, 0⟩

def menqE (m : MQ) (s : ByteArray) : Int := enqY s.size m.bodies.length m.floor m.c.k
def menqM (m : MQ) (s : ByteArray) : MQ :=
  bif decide (menqE m s = 0) then { m with bodies := m.bodies ++ [s], groups := m.groups.map (fun g => { g with items := g.items ++ [It.zero] }), changes := wrap64 (m.changes + 1) } else m
def mgrpE (m : MQ) (s : ByteArray) (fr : Int) : Int :=
  bif btw s.size 1 16 then bif memB s m.names then 7 else bif decide (6 ≤ m.groups.length) then 8 else bif btw fr m.floor m.bodies.length then 0 else 9 else 6
def mgrpM (m : MQ) (s : ByteArray) (fr : Int) : MQ :=
  bif decide (mgrpE m s fr = 0) then { m with groups := m.groups ++ [⟨s, fr, List.replicate m.bodies.length It.zero, []⟩], changes := wrap64 (m.changes + 1) } else m

theorem menqM_rq (m : MQ) (s : ByteArray) : enqQ m.rq s = (menqM m s).rq := by
  unfold enqQ menqM menqE
  have e1 : m.rq.bodies.length = m.bodies.length := by simp [MQ.rq]
  have e2 : m.rq.floor = m.floor := rfl
  have e3 : m.rq.c = m.c := rfl
  rw [e1, e2, e3]
  cases decide (enqY s.size m.bodies.length m.floor m.c.k = 0)
  · rfl
  · simp only [cond_true, MQ.rq]
    simp [Function.comp_def, MG.rg, growG, itVals_append, itVals, zero4]
theorem itVals_zeros : ∀ n : Nat, itVals (List.replicate n It.zero) = zeros4 n
  | 0 => rfl
  | n + 1 => by
    rw [List.replicate_succ]
    simp only [itVals, itVals_zeros n, zeros4, It.zero]
    rw [show (n + 1) * 4 = n * 4 + 1 + 1 + 1 + 1 by omega]
    simp only [List.replicate_succ]
theorem mgrpE_rq (m : MQ) (s : ByteArray) (fr : Int) : grpY s fr m.rq = mgrpE m s fr := by
  unfold grpY mgrpE
  rw [names_rq]
  simp [MQ.rq]
theorem mgrpM_rq (m : MQ) (s : ByteArray) (fr : Int) : grpQ m.rq s fr = (mgrpM m s fr).rq := by
  unfold grpQ mgrpM
  rw [mgrpE_rq]
  cases decide (mgrpE m s fr = 0)
  · rfl
  · simp only [cond_true, MQ.rq]
    simp [MG.rg, itVals_zeros]

/-- how many messages are done or dead -/
def cnt (l : List It) : Nat := (l.filter (fun x => decide (0 < x.done))).length
theorem cnt_le (l : List It) : cnt l ≤ l.length := List.length_filter_le _ _
theorem cnt_append (a b : List It) : cnt (a ++ b) = cnt a + cnt b := by simp [cnt]
theorem cnt_set : ∀ (l : List It) (n : Nat) (x y : It), l[n]? = some x → cnt (l.set n y) + (if 0 < x.done then 1 else 0) = cnt l + (if 0 < y.done then 1 else 0)
  | [], n, x, y, h => by simp at h
  | z :: r, 0, x, y, h => by
    simp at h
    subst h
    by_cases h1 : 0 < z.done <;> by_cases h2 : 0 < y.done <;> simp [cnt, h1, h2] <;> omega
  | z :: r, n + 1, x, y, h => by
    have ih := cnt_set r n x y (by simpa using h)
    simp only [cnt, List.set_cons_succ] at ih ⊢
    by_cases h1 : 0 < z.done
    · simp only [List.filter_cons, h1, decide_true, if_true, List.length_cons]; omega
    · simp only [List.filter_cons, h1, decide_false, Bool.false_eq_true, if_false]; exact ih

/-- What holds of every queue that the law makes; B: what its time does not pass. -/
structure MQ.Fit (m : MQ) (B : Int) : Prop where
  ok : m.Ok
  cnt : ∀ g ∈ m.groups, g.dead.length ≤ cnt g.items
  time : m.time ≤ B

theorem MQ.Fit.dead {m : MQ} {B : Int} (h : m.Fit B) (hn : m.bodies.length ≤ 400) : ∀ g ∈ m.groups, g.dead.length ≤ 4000 := fun g hg => by
  have := h.cnt g hg
  have := cnt_le g.items
  have := h.ok.len g hg
  omega
theorem MQ.Fit.mono {m : MQ} {B B' : Int} (h : m.Fit B) (hB : B ≤ B') : m.Fit B' := ⟨h.ok, h.cnt, Int.le_trans h.time hB⟩
theorem fit_new (c : Conf) (h : goodC c = true) : MQ.Fit ⟨c, [], 0, [], 0, 0⟩ 0 := ⟨⟨h, by simp, by simp, by simp, by simp, by simp⟩, by simp, by simp⟩

theorem fit_enq {m : MQ} {B : Int} (h : m.Fit B) (s : ByteArray) : (menqM m s).Fit B := by
  unfold menqM
  cases decide (menqE m s = 0)
  · exact h
  · obtain ⟨⟨h1, h2, h3, h4, h5, h6⟩, h7, h8⟩ := h
    refine ⟨⟨h1, ?_, ?_, h4, ?_, ?_⟩, ?_, h8⟩
    · intro g hg
      simp at hg
      obtain ⟨g0, hg0, rfl⟩ := hg
      simp [h2 g0 hg0]
    · intro g hg n hn
      simp at hg
      obtain ⟨g0, hg0, rfl⟩ := hg
      have := h3 g0 hg0 n hn
      simp
      omega
    · simp; omega
    · intro g hg
      simp at hg
      obtain ⟨g0, hg0, rfl⟩ := hg
      have := h6 g0 hg0
      simp
      omega
    · intro g hg
      simp at hg
      obtain ⟨g0, hg0, rfl⟩ := hg
      have := h7 g0 hg0
      rw [cnt_append]
      simp only
      omega
theorem fit_grp {m : MQ} {B : Int} (h : m.Fit B) (s : ByteArray) (fr : Int) : (mgrpM m s fr).Fit B := by
  unfold mgrpM
  by_cases hE : mgrpE m s fr = 0
  · simp only [hE, decide_true, cond_true]
    obtain ⟨⟨h1, h2, h3, h4, h5, h6⟩, h7, h8⟩ := h
    have hf : m.floor ≤ fr ∧ fr ≤ m.bodies.length := by
      unfold mgrpE at hE
      cases e1 : btw s.size 1 16 <;> cases e2 : memB s m.names <;> cases e3 : decide (6 ≤ m.groups.length) <;> cases e4 : btw fr m.floor m.bodies.length <;> simp [e1, e2, e3, e4] at hE
      exact btw_true e4
    refine ⟨⟨h1, ?_, ?_, h4, h5, ?_⟩, ?_, h8⟩
    · intro g hg
      rcases List.mem_append.1 hg with hg | hg
      · exact h2 g hg
      · simp at hg; subst hg; simp
    · intro g hg n hn
      rcases List.mem_append.1 hg with hg | hg
      · exact h3 g hg n hn
      · simp at hg; subst hg; cases hn
    · intro g hg
      rcases List.mem_append.1 hg with hg | hg
      · exact h6 g hg
      · simp at hg; subst hg; simp; omega
    · intro g hg
      rcases List.mem_append.1 hg with hg | hg
      · exact h7 g hg
      · simp at hg; subst hg; simp
  · simp only [hE, decide_false, cond_false]
    exact h

theorem fit_setI {m : MQ} {B : Int} {k n : Nat} {g : MG} {x y : It} (h : m.Fit B) (hg : m.groups[k]? = some g) (hx : g.items[n]? = some x) (hxy : 0 < x.done → 0 < y.done) : (m.setI k n y).Fit B := by
  refine ⟨setI_ok h.ok, fun g' hg' => ?_, h.time⟩
  obtain ⟨j, hj⟩ := List.getElem?_of_mem hg'
  rw [setI_group] at hj
  obtain ⟨g0, h0, rfl⟩ := Option.map_eq_some_iff.1 hj
  have hc := h.cnt g0 (List.mem_of_getElem? h0)
  by_cases hk : k = j
  · subst hk
    rw [hg] at h0
    cases h0
    have := cnt_set g.items n x y hx
    simp only [if_true]
    by_cases h1 : 0 < x.done
    · have h2 := hxy h1
      simp only [h1, h2, if_true] at this
      omega
    · simp only [h1, if_false] at this
      split at this <;> omega
  · simp only [hk, if_false]
    exact hc
theorem fit_changes {m : MQ} {B v : Int} (h : m.Fit B) : MQ.Fit { m with changes := v } B := ⟨⟨h.ok.good, h.ok.len, h.ok.dead, h.ok.time, h.ok.fl, h.ok.start⟩, h.cnt, h.time⟩
theorem fit_onLeased {m : MQ} {B : Int} (h : m.Fit B) (s : ByteArray) (off tr : Int) (f : It → It) (hf : ∀ x, 0 < x.done → 0 < (f x).done) (hE : leasedE m s off tr = 0) : (onLeased m s off 0 f).Fit B := by
  obtain ⟨k, n, g, x, ha, hg, rfl, hx, _, _⟩ := leased_found h.ok hE
  rw [onLeased_ok ha hg hx]
  exact fit_setI h hg hx (hf x)
theorem fit_ack {m : MQ} {B : Int} (h : m.Fit B) (s : ByteArray) (off tr : Int) : (ackM m s off tr).Fit B := by
  unfold ackM
  by_cases hE : leasedE m s off tr = 0
  · simp only [hE, decide_true, cond_true]
    exact fit_changes (fit_onLeased h s off tr (fun x => { x with done := 1 }) (fun _ _ => by simp) hE)
  · simp only [hE, decide_false, cond_false]
    exact h
theorem ranged_leased {m : MQ} {s : ByteArray} {off tr n lo : Int} (h : rangedE m s off tr n lo = 0) : leasedE m s off tr = 0 := by
  unfold rangedE at h
  cases hc : ((m.at s).isSome && !btw n lo 60000)
  · rw [hc] at h; exact h
  · rw [hc] at h; simp at h
theorem fit_nack {m : MQ} {B : Int} (h : m.Fit B) (s : ByteArray) (off tr d : Int) : (nackM m s off tr d).Fit B := by
  unfold nackM
  by_cases hE : rangedE m s off tr d 0 = 0
  · simp only [hE, decide_true, cond_true]
    exact fit_onLeased h s off tr _ (fun _ h => h) (ranged_leased hE)
  · simp only [hE, decide_false, cond_false]
    exact h
theorem fit_extend {m : MQ} {B : Int} (h : m.Fit B) (s : ByteArray) (off tr d : Int) : (extendM m s off tr d).Fit B := by
  unfold extendM
  by_cases hE : rangedE m s off tr d 1 = 0
  · simp only [hE, decide_true, cond_true]
    exact fit_onLeased h s off tr _ (fun _ h => h) (ranged_leased hE)
  · simp only [hE, decide_false, cond_false]
    exact h
theorem fit_tick {m : MQ} {B : Int} (h : m.Fit B) (d : Int) (hB : B ≤ 3999999999999940000) : (tickM m d).Fit (B + 60000) := by
  unfold tickM
  cases hb : btw d 0 60000
  · exact h.mono (by omega)
  · have h1 := btw_true hb
    have h2 := h.time
    have h3 := h.ok.time
    exact ⟨⟨h.ok.good, h.ok.len, h.ok.dead, by simp only [cond_true]; omega, h.ok.fl, h.ok.start⟩, h.cnt, by simp only [cond_true]; omega⟩
theorem fit_retain {m : MQ} {B : Int} (h : m.Fit B) : (retainM m).Fit B := by
  unfold retainM
  cases retainB m
  · have := retainTo_le m h.ok.good
    exact ⟨⟨h.ok.good, h.ok.len, h.ok.dead, h.ok.time, this, h.ok.start⟩, h.cnt, h.time⟩
  · exact h

structure RS.Fit (st : RS) (N : Nat) : Prop where
  len : st.items.length = N
  dead : ∀ n ∈ st.dead, n < N
  cnt : st.dead.length ≤ cnt st.items

theorem fit_recvOne {m : MQ} {start : Int} {st : RS} {n N : Nat} {x : It} (h : st.Fit N) (hx : st.items[n]? = some x) : (recvOne m start st n x).Fit N := by
  have hlt := (List.getElem?_eq_some_iff.1 hx).1
  unfold recvOne
  cases hp : passed m start n x
  · have hd : ¬ 0 < x.done := by
      intro hd
      simp [passed, hd] at hp
    simp only [cond_false]
    by_cases hE : m.c.d ≤ x.tries
    · simp only [hE, decide_true, cond_true]
      have hc := cnt_set st.items n x { x with done := 2 } hx
      simp only [hd, if_false] at hc
      refine ⟨by simp [h.len], fun k hk => ?_, ?_⟩
      · rcases List.mem_append.1 hk with hk | hk
        · exact h.dead k hk
        · simp at hk; have := h.len; omega
      · have := h.cnt
        simp only [List.length_append, List.length_cons, List.length_nil]
        simp at hc
        omega
    · simp only [hE, decide_false, cond_false]
      have hc := cnt_set st.items n x { x with tries := wrap64 (x.tries + 1), till := m.time + m.c.l } hx
      simp only [hd, if_false] at hc
      refine ⟨by simp [h.len], h.dead, ?_⟩
      have := h.cnt
      simp only at hc ⊢
      omega
  · exact h
theorem fit_recvStep {m : MQ} {start : Int} {fr : List Nat} {st : RS} {k N : Nat} (h : st.Fit N) : (recvStep m start fr st k).Fit N := by
  unfold recvStep
  cases decide (k < m.bodies.length)
  · simp only [cond_false]
    cases fr[k - m.bodies.length]? with
    | none => exact h
    | some n =>
      simp only
      cases hx : st.items[n]? with
      | none => exact h
      | some x => exact fit_recvOne h hx
  · simp only [cond_true]
    cases hx : st.items[k]? with
    | none => exact h
    | some x =>
      simp only
      cases decide (x.tries = 0)
      · exact fit_recvOne h hx
      · exact h
theorem fit_recvRun {m : MQ} {start : Int} {fr : List Nat} {n : Int} {N : Nat} : ∀ (f k : Nat) (st : RS), st.Fit N → (recvRun m start fr n f k st).Fit N
  | 0, _, _, h => h
  | f + 1, k, st, h => by
    unfold recvRun
    cases decide (n ≤ st.out.length)
    · exact fit_recvRun f (k + 1) _ (fit_recvStep h)
    · exact h
theorem fit_recv {m : MQ} {B : Int} (h : m.Fit B) (s : ByteArray) (n : Int) : (recvM m s n).Fit B := by
  unfold recvM
  cases ha : m.at s with
  | none => exact h
  | some k =>
    simp only
    cases hg : m.groups[k]? with
    | none => exact h
    | some g =>
      simp only
      cases btw n 1 32
      · exact h
      · have hm := List.mem_of_getElem? hg
        have hf : (recvAll m g n).Fit m.bodies.length := fit_recvRun _ _ _ ⟨h.ok.len g hm, h.ok.dead g hm, h.cnt g hm⟩
        refine ⟨setG_ok h.ok hf.len hf.dead, fun g' hg' => ?_, h.time⟩
        obtain ⟨j, hj⟩ := List.getElem?_of_mem hg'
        simp only [cond_true] at hj
        rw [setG_group] at hj
        obtain ⟨g0, h0, rfl⟩ := Option.map_eq_some_iff.1 hj
        by_cases hk : k = j
        · simp only [hk, if_true]; exact hf.cnt
        · simp only [hk, if_false]; exact h.cnt g0 (List.mem_of_getElem? h0)

end Go.Proofs.Ytgcbooflhdjnhaa

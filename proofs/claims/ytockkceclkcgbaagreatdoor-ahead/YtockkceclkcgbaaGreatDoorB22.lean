/- What holds of every queue holds behind every record: a message, a group, a Receive, an Ack, a Retain. -/
import Derived.Test.YtockkceclkcgbaaGreatDoorB21
import Derived.Test.YtockkceclkcgbaaGreatDoorB02
import Derived.Deep.AppendSrc
import Derived.Laws.BytesString
namespace Go.Proofs.YtockkceclkcgbaaGreatDoor
open Go.RowKit

theorem wrap64_small {n : Int} (h0 : -9223372036854775808 ≤ n) (h1 : n ≤ 9223372036854775807) : wrap64 n = n := by
  unfold wrap64
  omega

theorem cok_zero {c : Conf} (hd : 1 ≤ c.d ∧ c.d ≤ 10) (hs : 1 ≤ c.s) (hk : c.k ≤ 100) (hk0 : 0 ≤ c.k) : COk c .zero :=
  ⟨hd, hs, hk, Int.le_refl _, by simp [Core.zero], by simp [Core.zero, Core.stop], by simpa [Core.zero] using hk0, by simp [Core.zero], by simp [Core.zero], by simp [Core.zero, Core.names], by simp [Core.zero, Core.names], by simp [Core.zero]⟩

theorem body_keep {q : Core} {s : ByteArray} {o : Int} (h0 : q.floor ≤ o) (h1 : o < q.stop) : (q.keep s).body o = q.body o := by
  unfold Core.stop at h1
  simp only [Core.body, Core.keep, List.getD_eq_getElem?_getD]
  rw [List.getElem?_append_left (by omega)]
theorem cok_keep {c : Conf} {q : Core} {s : ByteArray} (h : COk c q) (he : q.keepE c s = 0) : COk c (q.keep s) := by
  have hs : (q.keep s).stop = q.stop + 1 := by simp [Core.stop, Core.keep]; omega
  have hfl := h.fl
  have hE : s.size ≤ 64 ∧ q.stop < 400 ∧ (q.bodies.length : Int) < c.k := by
    unfold Core.keepE at he
    by_cases a : 64 < s.size
    · simp [a] at he
    · by_cases b : 400 ≤ q.stop
      · simp [a, b] at he
      · by_cases d : c.k ≤ (q.bodies.length : Int)
        · simp [a, b, d] at he
        · omega
  refine ⟨h.d, h.s, h.k, h.fl, h.seg, by omega, by simp [Core.keep]; omega, fun x hx => ?_, h.few, h.once, h.name, fun p hp => ?_⟩
  · simp only [Core.keep, List.mem_append, List.mem_singleton] at hx
    rcases hx with hx | hx
    · exact h.short x hx
    · rw [hx]; exact hE.1
  · have g := h.grp p hp
    refine ⟨⟨g.start.1, by have := g.start.2; omega⟩, g.set, fun n hn => ?_, g.low, g.tr, g.gone, fun n hn => ?_, fun x hx => ?_, g.once⟩
    · have := g.done n hn; omega
    · have := g.out n hn
      exact ⟨this.1, by omega⟩
    · have a := g.dead x hx
      have b := g.done _ a.1
      exact ⟨a.1, a.2.1, a.2.2.1, fun hf => (a.2.2.2 hf).trans (body_keep (q := q) (s := s) hf b.2).symm⟩
theorem joinE_ok {q : Core} {s : ByteArray} {fr l : Int} (he : q.joinE s fr l = 0) : (1 ≤ s.size ∧ s.size ≤ 16) ∧ s ∉ q.names ∧ q.gs.length < 6 ∧ l ≤ fr ∧ fr ≤ q.stop := by
  unfold Core.joinE at he
  by_cases a : (1 : Int) ≤ s.size ∧ (s.size : Int) ≤ 16
  · have a' : btw (s.size : Int) 1 16 = true := by simp [btw]; omega
    rw [a', cond_true] at he
    cases hb : memB s q.names with
    | true => rw [hb, cond_true] at he; omega
    | false =>
      rw [hb, cond_false] at he
      by_cases d : 6 ≤ q.gs.length
      · simp [d] at he
      · have d' : decide (6 ≤ q.gs.length) = false := by simpa using d
        rw [d', cond_false] at he
        by_cases e : l ≤ fr ∧ fr ≤ q.stop
        · exact ⟨by omega, memB_not.1 hb, by omega, e.1, e.2⟩
        · have e' : btw fr l q.stop = false := by simp [btw]; omega
          rw [e', cond_false] at he
          omega
  · have a' : btw (s.size : Int) 1 16 = false := by simp [btw]; omega
    rw [a', cond_false] at he
    omega
theorem gok_new {c : Conf} {q : Core} (h : COk c q) {fr : Int} (h0 : q.floor ≤ fr) (h1 : fr ≤ q.stop) : GOk c q (CG.new fr) := by
  have hfl := h.fl
  refine ⟨⟨by show 0 ≤ fr; omega, h1⟩, setB_nil', fun n hn => ?_, fun n a b => ?_, fun n => ⟨Int.le_refl _, by have := h.d; show (0 : Int) ≤ c.d; omega⟩, fun n _ => rfl, fun n hn => absurd rfl hn, by simp [CG.new], by simp [CG.new]⟩
  · have : hasB [] n = true := hn
    rw [hasB_nil'] at this
    cases this
  · have : fr ≤ n := a
    omega
/-- what holds of a group hangs on the floor, the end and the bodies alone -/
theorem GOk.move {c : Conf} {q r : Core} {g : CG} (h : GOk c q g) (hf : r.floor = q.floor) (hb : r.bodies = q.bodies) : GOk c r g := by
  have hs : r.stop = q.stop := by unfold Core.stop; rw [hf, hb]
  have hbd : ∀ o, r.body o = q.body o := fun o => by unfold Core.body; rw [hf, hb]
  have hfi : r.first g = q.first g := by unfold Core.first; rw [hf]
  exact ⟨by rw [hs]; exact h.start, h.set, by rw [hs]; exact h.done, by rw [hf]; exact h.low, h.tr, h.gone, by rw [hs, hfi]; exact h.out, fun x hx => by rw [hf, hbd]; exact h.dead x hx, h.once⟩
theorem cok_join {c : Conf} {q : Core} {s : ByteArray} {fr : Int} (h : COk c q) (he : q.joinE s fr q.floor = 0) : COk c (q.join s fr) := by
  obtain ⟨e1, e2, e3, e4, e5⟩ := joinE_ok he
  refine ⟨h.d, h.s, h.k, h.fl, h.seg, h.stop, h.kept, h.short, by simp [Core.join]; omega, ?_, fun x hx => ?_, fun p hp => ?_⟩
  · have hn := h.once
    unfold Core.names at hn e2 ⊢
    simp only [Core.join, List.map_append, List.map_cons, List.map_nil]
    rw [List.nodup_append]
    refine ⟨hn, by simp, fun a ha b hb e => ?_⟩
    simp only [List.mem_singleton] at hb
    subst e
    rw [hb] at ha
    exact e2 ha
  · have : x ∈ q.names ∨ x = s := by simpa [Core.names, Core.join] using hx
    rcases this with hx | hx
    · exact h.name x hx
    · rw [hx]; exact e1
  · have : p ∈ q.gs ∨ p = (s, CG.new fr) := by simpa [Core.join] using hp
    rcases this with hp | hp
    · exact (h.grp p hp).move rfl rfl
    · rw [hp]; exact (gok_new h e4 e5).move rfl rfl
theorem put_names {q : Core} {s : ByteArray} {g : CG} : (q.put s g).names = q.names := by
  simp only [Core.names, Core.put, List.map_map]
  apply List.map_congr_left
  intro p _
  simp only [Function.comp_apply]
  split
  · rename_i e; exact e.symm
  · rfl
theorem cok_put {c : Conf} {q : Core} {s : ByteArray} {g : CG} (h : COk c q) (hg : GOk c q g) : COk c (q.put s g) := by
  refine ⟨h.d, h.s, h.k, h.fl, h.seg, h.stop, h.kept, h.short, by simpa [Core.put] using h.few, by rw [put_names]; exact h.once, by rw [put_names]; exact h.name, fun p hp => ?_⟩
  simp only [Core.put, List.mem_map] at hp
  obtain ⟨p0, h0, rfl⟩ := hp
  split
  · exact hg.move rfl rfl
  · exact (h.grp p0 h0).move rfl rfl
theorem gok_finish {c : Conf} {q : Core} {g : CG} {o : Int} (h : GOk c q g) (h0 : 0 ≤ q.floor) (h4 : q.stop ≤ 400) (h1 : q.first g ≤ o) (h2 : o < q.stop) : GOk c q (g.finish o o) := by
  have hst := h.start
  have hf : q.floor ≤ o ∧ g.start ≤ o := by unfold Core.first at h1; omega
  have hr : isR o o = true := by simp [isR]; omega
  have hhas : ∀ n, hasB (g.finish o o).done n = (hasB g.done n || withinB o o n) := fun n => addTo_has n h.set hr
  have hw : ∀ n, withinB o o n = true → n = o := fun n hn => by simp [withinB] at hn; omega
  have htr : ∀ n, (g.finish o o).tr n = if n = o then 0 else g.tr n := fun n => by
    show clr 0 g.tr o o n = _
    unfold clr
    by_cases hn : n = o
    · rw [if_pos (by omega), if_pos hn]
    · rw [if_neg (by omega), if_neg hn]
  have hd := h.tr o
  refine ⟨h.start, addTo_setB h.set hr, fun n hn => ?_, fun n a b => ?_, fun n => ?_, fun n hn => ?_, fun n hn => ?_, fun x hx => ?_, h.once⟩
  · rw [hhas, Bool.or_eq_true] at hn
    rcases hn with hn | hn
    · exact h.done n hn
    · have := hw n hn
      show g.start ≤ n ∧ n < q.stop
      omega
  · rw [hhas, h.low n a b]
    rfl
  · rw [htr]
    by_cases hn : n = o
    · rw [if_pos hn]; omega
    · rw [if_neg hn]; exact h.tr n
  · rw [htr]
    by_cases e : n = o
    · rw [if_pos e]
    · rw [if_neg e]
      rw [hhas, Bool.or_eq_true] at hn
      rcases hn with hn | hn
      · exact h.gone n hn
      · exact absurd (hw n hn) e
  · rw [htr] at hn
    by_cases e : n = o
    · rw [if_pos e] at hn; exact absurd rfl hn
    · rw [if_neg e] at hn; exact h.out n hn
  · have a := h.dead x hx
    exact ⟨by rw [hhas, a.1]; rfl, a.2⟩
theorem has_iff {q : Core} {g : CG} {o : Int} (h : q.has g o = true) : q.first g ≤ o ∧ o < q.stop := by
  simp [Core.has, btw] at h
  omega
theorem gok_serve {c : Conf} {q : Core} {g : CG} {o : Int} (hq : COk c q) (h : GOk c q g) (h1 : q.has g o = true) (h2 : hasB g.done o = false) : GOk c q (g.serve c.d (q.body o) o) := by
  obtain ⟨a1, a2⟩ := has_iff h1
  have htr := h.tr o
  have hd := hq.d
  unfold CG.serve
  by_cases hd0 : c.d ≤ g.tr o
  · have e : g.tr o = c.d := by omega
    have hf := gok_finish h hq.fl hq.stop a1 a2
    have hr : isR o o = true := by
      have := hq.fl
      have := hq.stop
      have : q.floor ≤ o := by unfold Core.first at a1; omega
      simp [isR]; omega
    have hdone : hasB (g.finish o o).done o = true := by
      show hasB (addTo g.done o o) o = true
      rw [addTo_has o h.set hr]
      simp [withinB]
    simp only [hd0, decide_true, cond_true]
    refine ⟨hf.start, hf.set, hf.done, hf.low, hf.tr, hf.gone, hf.out, fun x hx => ?_, ?_⟩
    · simp only [List.mem_append, List.mem_singleton] at hx
      rcases hx with hx | rfl
      · exact hf.dead x hx
      · refine ⟨hdone, e, ?_, fun _ => rfl⟩
        show (q.body o).size ≤ 64
        unfold Core.body
        rw [List.getD_eq_getElem?_getD]
        cases hb : q.bodies[(o - q.floor).toNat]? with
        | none => exact Nat.zero_le _
        | some s => exact hq.short s (List.mem_of_getElem? hb)
    · simp only [List.map_append, List.map_cons, List.map_nil]
      rw [List.nodup_append]
      refine ⟨h.once, by simp, fun a ha b hb e => ?_⟩
      simp only [List.mem_singleton] at hb
      subst e
      obtain ⟨x, hx, e⟩ := List.mem_map.1 ha
      have := (h.dead x hx).1
      rw [e, hb, h2] at this
      cases this
  · have hd' : decide (c.d ≤ g.tr o) = false := by simpa using hd0
    have hw : wrap64 (g.tr o + 1) = g.tr o + 1 := wrap64_small (by omega) (by omega)
    simp only [hd', cond_false, hw]
    refine ⟨h.start, h.set, h.done, h.low, fun n => ?_, fun n hn => ?_, fun n hn => ?_, h.dead, h.once⟩
    · show 0 ≤ upd g.tr o _ n ∧ upd g.tr o _ n ≤ c.d
      unfold upd
      by_cases hn : n = o
      · rw [if_pos hn]; omega
      · rw [if_neg hn]; exact h.tr n
    · show upd g.tr o _ n = 0
      unfold upd
      by_cases e : n = o
      · have hn' : hasB g.done n = true := hn
        rw [e, h2] at hn'; cases hn'
      · rw [if_neg e]; exact h.gone n hn
    · by_cases e : n = o
      · subst e; exact ⟨a1, a2⟩
      · have : upd g.tr o (g.tr o + 1) n ≠ 0 := hn
        unfold upd at this
        rw [if_neg e] at this
        exact h.out n this
theorem gok_serveAll {c : Conf} {q : Core} (hq : COk c q) : ∀ (l : List Int) (g g' : CG), GOk c q g → q.serveAll c g l = some g' → GOk c q g'
  | [], g, g', h, e => by
    simp only [Core.serveAll, Option.some.injEq] at e
    rw [← e]; exact h
  | o :: l, g, g', h, e => by
    unfold Core.serveAll at e
    cases h1 : (q.has g o && !hasB g.done o) with
    | false => rw [h1] at e; cases e
    | true =>
      rw [h1, cond_true] at e
      simp only [Bool.and_eq_true, Bool.not_eq_true'] at h1
      exact gok_serveAll hq l _ g' (gok_serve hq h h1.1 h1.2) e

theorem least_le {q : Core} : q.least ≤ q.stop ∧ ∀ p ∈ q.gs, q.least ≤ gapI p.2.done p.2.start := by
  unfold Core.least
  generalize q.stop = a
  induction q.gs generalizing a with
  | nil => simp
  | cons p r ih =>
    rw [List.foldl_cons]
    obtain ⟨i1, i2⟩ := ih (min a (gapI p.2.done p.2.start))
    refine ⟨by omega, fun x hx => ?_⟩
    rcases List.mem_cons.1 hx with rfl | hx
    · omega
    · exact i2 x hx
theorem least_ge {q : Core} {b : Int} (h0 : b ≤ q.stop) (h1 : ∀ p ∈ q.gs, b ≤ gapI p.2.done p.2.start) : b ≤ q.least := by
  unfold Core.least
  revert h0 h1
  generalize q.stop = a
  generalize q.gs = l
  intro h0 h1
  induction l generalizing a with
  | nil => simpa using h0
  | cons p r ih =>
    rw [List.foldl_cons]
    have := h1 p (by simp)
    exact ih _ (by omega) (fun x hx => h1 x (by simp [hx]))
theorem goTo_facts {c : Conf} {q : Core} (h : COk c q) : 0 ≤ q.goTo c ∧ q.goTo c ≤ q.least ∧ q.goTo c % c.s = 0 ∧ 0 ≤ q.least ∧ q.least % c.s ≤ q.least ∧ 0 ≤ q.least % c.s := by
  have hs := h.s
  have h0 : 0 ≤ q.least := least_ge (by have := h.fl; unfold Core.stop; omega) (fun p hp => by
    have a := h.grp p hp
    have := (gap_spec a.set p.2.start).1
    have := a.start
    omega)
  have h1 := Int.emod_nonneg q.least (show c.s ≠ 0 by omega)
  have h2 : q.least % c.s ≤ q.least := by
    have h3 := Int.emod_add_mul_ediv q.least c.s
    have h4 := Int.ediv_nonneg h0 (show 0 ≤ c.s by omega)
    have h5 := Int.mul_nonneg (show 0 ≤ c.s by omega) h4
    omega
  unfold Core.goTo
  refine ⟨by omega, by omega, ?_, h0, h2, h1⟩
  rw [Int.sub_emod, Int.emod_emod_of_dvd _ (Int.dvd_refl _), Int.sub_self]
  simp
theorem cok_release {c : Conf} {q : Core} (h : COk c q) : COk c (q.release c) := by
  unfold Core.release
  cases hst : q.stays c with
  | true => exact h
  | false =>
    obtain ⟨f0, f1, f2, _⟩ := goTo_facts h
    have hl := least_le (q := q)
    have hfl := h.fl
    have hlt : q.floor < q.goTo c := by
      unfold Core.stays at hst
      simp at hst
      exact hst.2
    have hstop : q.floor + q.bodies.length = q.stop := rfl
    have hs : Core.stop { q with floor := q.goTo c, bodies := q.bodies.drop (q.goTo c - q.floor).toNat } = q.stop := by
      simp only [Core.stop, List.length_drop]
      omega
    have hbody : ∀ o, q.goTo c ≤ o → Core.body { q with floor := q.goTo c, bodies := q.bodies.drop (q.goTo c - q.floor).toNat } o = q.body o := fun o ho => by
      simp only [Core.body, List.getD_eq_getElem?_getD, List.getElem?_drop]
      congr 2
      omega
    have hk := h.kept
    refine ⟨h.d, h.s, h.k, f0, f2, by simp only [cond_false]; rw [hs]; exact h.stop, ?_, fun s hm => h.short s (List.mem_of_mem_drop hm), h.few, h.once, h.name, fun p hp => ?_⟩
    · simp only [cond_false, List.length_drop]
      omega
    · have g := h.grp p hp
      have hm := hl.2 p hp
      have gs := gap_spec g.set p.2.start
      simp only [cond_false]
      refine ⟨by rw [hs]; exact g.start, g.set, by rw [hs]; exact g.done, fun n a b => ?_, g.tr, g.gone, fun n hn => ?_, fun x hx => ?_, g.once⟩
      · have b' : n < q.goTo c := b
        exact gs.2.2 n a (by omega)
      · rw [hs]
        have o := g.out n hn
        refine ⟨?_, o.2⟩
        have hst : p.2.start ≤ n := by unfold Core.first at o; omega
        have : ¬ n < q.goTo c := fun hlt2 => by
          have := gs.2.2 n hst (by omega)
          exact hn (g.gone n this)
        show max (q.goTo c) p.2.start ≤ n
        omega
      · have a := g.dead x hx
        refine ⟨a.1, a.2.1, a.2.2.1, fun hf => ?_⟩
        have hf' : q.goTo c ≤ x.off := hf
        rw [hbody x.off hf']
        exact a.2.2.2 (by omega)

end Go.Proofs.YtockkceclkcgbaaGreatDoor

/- How long a log can be: each record does something that can be done so often alone. -/
namespace Go.Proofs.YtockkceclkcgbaaGreatDoor
open Go.RowKit

def sumTo (f : Nat → Int) : Nat → Int
  | 0 => 0
  | n + 1 => sumTo f n + f n
theorem sumTo_le {f g : Nat → Int} : ∀ n, (∀ j, j < n → f j ≤ g j) → sumTo f n ≤ sumTo g n
  | 0, _ => Int.le_refl _
  | n + 1, h => by
    have h1 := sumTo_le n (fun j hj => h j (by omega))
    have h2 := h n (by omega)
    simp only [sumTo]
    omega
theorem sumTo_more {f g : Nat → Int} : ∀ (n k : Nat), k < n → (∀ j, j < n → f j ≤ g j) → f k + 1 ≤ g k → sumTo f n + 1 ≤ sumTo g n
  | 0, k, hk, _, _ => by omega
  | n + 1, k, hk, h, h1 => by
    have h2 := h n (by omega)
    simp only [sumTo]
    by_cases e : k = n
    · subst e
      have := sumTo_le (f := f) (g := g) k (fun j hj => h j (by omega))
      omega
    · have := sumTo_more (f := f) (g := g) n k (by omega) (fun j hj => h j (by omega)) h1
      omega
theorem sumTo_bound {f : Nat → Int} {b : Int} : ∀ n, (∀ j, j < n → 0 ≤ f j ∧ f j ≤ b) → 0 ≤ sumTo f n ∧ sumTo f n ≤ n * b
  | 0, _ => by simp [sumTo]
  | n + 1, h => by
    have h1 := sumTo_bound (f := f) (b := b) n (fun j hj => h j (by omega))
    have h2 := h n (by omega)
    simp only [sumTo]
    have : ((n + 1 : Nat) : Int) * b = n * b + b := by rw [Int.natCast_add, Int.add_mul]; simp
    omega

def weight (g : CG) (n : Nat) : Int := bif hasB g.done n then 11 else g.tr n
def phiG (g : CG) : Int := sumTo (weight g) 400
def phiL (l : List (ByteArray × CG)) : Int := (l.map (fun p => phiG p.2)).sum
def phi (q : Core) : Int := q.stop + q.floor + q.gs.length + phiL q.gs

theorem weight_bound {c : Conf} {q : Core} {g : CG} (hq : COk c q) (h : GOk c q g) (n : Nat) : 0 ≤ weight g n ∧ weight g n ≤ 11 := by
  unfold weight
  have h1 := h.tr n
  have h2 := hq.d
  cases hasB g.done n
  · simp only [cond_false]; omega
  · simp
theorem phiG_bound {c : Conf} {q : Core} {g : CG} (hq : COk c q) (h : GOk c q g) : 0 ≤ phiG g ∧ phiG g ≤ 4400 := by
  have := sumTo_bound (f := weight g) (b := 11) 400 (fun j _ => weight_bound hq h j)
  unfold phiG
  omega
theorem phiL_bound {c : Conf} {q : Core} (hq : COk c q) : ∀ l : List (ByteArray × CG), (∀ p ∈ l, GOk c q p.2) → 0 ≤ phiL l ∧ phiL l ≤ 4400 * l.length
  | [], _ => by simp [phiL]
  | p :: l, h => by
    have h1 := phiL_bound hq l (fun x hx => h x (by simp [hx]))
    have h2 := phiG_bound hq (h p (by simp))
    simp only [phiL, List.map_cons, List.sum_cons, List.length_cons] at h1 ⊢
    omega
theorem phi_bound {c : Conf} {q : Core} (hq : COk c q) : 0 ≤ phi q ∧ phi q ≤ 27206 := by
  have h1 := phiL_bound hq q.gs hq.grp
  have h2 := hq.few
  have h3 := hq.stop
  have h4 := hq.fl
  have h5 : q.floor ≤ q.stop := by unfold Core.stop; omega
  unfold phi
  omega
/-- the log is not too long -/
def Short (lg : Bs) (q : Core) : Prop := (lg.length : Int) ≤ 130 * phi q + 18
theorem Short.bound {lg : Bs} {c : Conf} {q : Core} (h : Short lg q) (hq : COk c q) : lg.length ≤ 3600000 := by
  have := phi_bound hq
  unfold Short at h
  omega
theorem phiL_perm {a b : List (ByteArray × CG)} (h : a.Perm b) : phiL a = phiL b := by
  unfold phiL
  induction h with
  | nil => rfl
  | cons x _ ih => simp only [List.map_cons, List.sum_cons, ih]
  | swap x y l => simp only [List.map_cons, List.sum_cons]; omega
  | trans _ _ h1 h2 => exact h1.trans h2
theorem Same.phi {q r : Core} (h : Same q r) : phi q = phi r := by
  unfold Go.Proofs.YtockkceclkcgbaaGreatDoor.phi
  rw [h.stop, h.floor, h.gs.length_eq, phiL_perm h.gs]
theorem phi_keep (q : Core) (s : ByteArray) : phi (q.keep s) = phi q + 1 := by
  have : (q.keep s).stop = q.stop + 1 := by simp [Core.stop, Core.keep]; omega
  unfold phi
  rw [this]
  show q.stop + 1 + q.floor + q.gs.length + phiL q.gs = _
  omega
theorem phiL_append (a b : List (ByteArray × CG)) : phiL (a ++ b) = phiL a + phiL b := by
  unfold phiL
  induction a with
  | nil => simp
  | cons x r ih =>
    simp only [List.cons_append, List.map_cons, List.sum_cons]
    simp only [List.map_append] at ih ⊢
    omega
theorem phiG_new (fr : Int) : phiG (CG.new fr) = 0 := by
  have h : ∀ n, sumTo (weight (CG.new fr)) n = 0 := fun n => by
    induction n with
    | zero => rfl
    | succ n ih =>
      have : weight (CG.new fr) n = 0 := by
        unfold weight CG.new
        simp only [hasB_nil', cond_false]
      simp only [sumTo, ih, this]
      rfl
  exact h 400
theorem phi_join (q : Core) (s : ByteArray) (fr : Int) : phi (q.join s fr) = phi q + 1 := by
  have h1 : phiL (q.join s fr).gs = phiL q.gs := by
    unfold Core.join
    rw [phiL_append]
    simp [phiL, phiG_new]
  have h2 : (q.join s fr).stop = q.stop := rfl
  have h3 : (q.join s fr).floor = q.floor := rfl
  have h4 : (q.join s fr).gs.length = q.gs.length + 1 := by simp [Core.join]
  unfold phi
  rw [h1, h2, h3, h4]
  omega
theorem phiL_put (s : ByteArray) (g g' : CG) : ∀ l : List (ByteArray × CG), (l.map (·.1)).Nodup → (s, g) ∈ l → phiL (l.map (fun p => if p.1 = s then (s, g') else p)) = phiL l - phiG g + phiG g'
  | [], _, h => by cases h
  | p :: l, hn, h => by
    rw [List.map_cons, List.nodup_cons] at hn
    by_cases e : p.1 = s
    · have hp : p = (s, g) := by
        rcases List.mem_cons.1 h with h | h
        · exact h.symm
        · exact absurd (List.mem_map.2 ⟨_, h, rfl⟩) (by rw [← e]; exact hn.1)
      have hrest : l.map (fun p => if p.1 = s then (s, g') else p) = l := by
        conv => rhs; rw [← List.map_id l]
        apply List.map_congr_left
        intro x hx
        rw [if_neg]
        · rfl
        · intro e2
          exact hn.1 (by rw [e, ← e2]; exact List.mem_map.2 ⟨x, hx, rfl⟩)
      subst hp
      rw [List.map_cons, hrest, if_pos rfl]
      simp only [phiL, List.map_cons, List.sum_cons]
      omega
    · have h2 : (s, g) ∈ l := by
        rcases List.mem_cons.1 h with h | h
        · exact absurd (by rw [← h]) e
        · exact h
      have ih := phiL_put s g g' l hn.2 h2
      rw [List.map_cons, if_neg e]
      simp only [phiL, List.map_cons, List.sum_cons] at ih ⊢
      omega
theorem phi_put {q : Core} {s : ByteArray} {g g' : CG} (hn : q.names.Nodup) (hf : q.find s = some g) : phi (q.put s g') = phi q - phiG g + phiG g' := by
  have h1 := phiL_put s g g' q.gs hn ((find_mem hn).1 hf)
  unfold phi
  rw [show phiL (q.put s g').gs = phiL q.gs - phiG g + phiG g' from h1]
  have h2 : (q.put s g').gs.length = q.gs.length := by simp [Core.put]
  rw [h2]
  show q.stop + q.floor + _ + _ = _
  omega
theorem phiG_finish {c : Conf} {q : Core} {g : CG} {o : Int} (hq : COk c q) (h : GOk c q g) (h0 : 0 ≤ o) (h4 : o < 400) (hn : hasB g.done o = false) : phiG g + 1 ≤ phiG (g.finish o o) := by
  have hr : isR o o = true := by simp [isR]; omega
  have hd := hq.d
  refine sumTo_more 400 o.toNat (by omega) (fun j _ => ?_) ?_
  · have h1 := h.tr j
    have e : hasB (g.finish o o).done j = (hasB g.done j || withinB o o j) := addTo_has j h.set hr
    unfold weight
    rw [e]
    cases hj : hasB g.done j with
    | true => simp
    | false =>
      by_cases ej : (j : Int) = o
      · have : withinB o o j = true := by simp [withinB]; omega
        simp only [this, Bool.or_true, cond_true, cond_false]
        omega
      · have : withinB o o j = false := by simp [withinB]; omega
        have ht : (g.finish o o).tr j = g.tr j := by
          show clr 0 g.tr o o j = _
          unfold clr
          rw [if_neg (by omega)]
        simp only [this, Bool.or_false, cond_false, ht]
        omega
  · have h1 := h.tr o
    have e : ((o.toNat : Nat) : Int) = o := by omega
    have e2 : hasB (g.finish o o).done o = (hasB g.done o || withinB o o o) := addTo_has o h.set hr
    have : withinB o o o = true := by simp [withinB]
    unfold weight
    rw [e, e2, hn, this]
    simp only [Bool.or_true, cond_true, cond_false]
    omega
theorem phiG_serve {c : Conf} {q : Core} {g : CG} {o : Int} {s : ByteArray} (hq : COk c q) (h : GOk c q g) (h0 : 0 ≤ o) (h4 : o < 400) (hn : hasB g.done o = false) : phiG g + 1 ≤ phiG (g.serve c.d s o) := by
  unfold CG.serve
  have hd := hq.d
  have ho := h.tr o
  cases decide (c.d ≤ g.tr o) with
  | true => exact phiG_finish hq h h0 h4 hn
  | false =>
    have hw : wrap64 (g.tr o + 1) = g.tr o + 1 := wrap64_small (by omega) (by omega)
    simp only [cond_false, hw]
    refine sumTo_more 400 o.toNat (by omega) (fun j _ => ?_) ?_
    · unfold weight
      cases hasB g.done j with
      | true => simp
      | false =>
        simp only [cond_false]
        unfold upd
        by_cases ej : (j : Int) = o
        · rw [if_pos ej, ej]; omega
        · rw [if_neg ej]; omega
    · have e : ((o.toNat : Nat) : Int) = o := by omega
      unfold weight
      rw [e, hn]
      simp only [cond_false]
      unfold upd
      rw [if_pos rfl]
      omega
theorem phiG_serveAll {c : Conf} {q : Core} (hq : COk c q) : ∀ (l : List Int) (g g' : CG), GOk c q g → q.serveAll c g l = some g' → phiG g + l.length ≤ phiG g'
  | [], g, g', _, e => by
    simp only [Core.serveAll, Option.some.injEq] at e
    rw [e]; simp
  | o :: l, g, g', h, e => by
    unfold Core.serveAll at e
    cases h1 : (q.has g o && !hasB g.done o) with
    | false => rw [h1] at e; cases e
    | true =>
      rw [h1, cond_true] at e
      simp only [Bool.and_eq_true, Bool.not_eq_true'] at h1
      have hh := has_iff h1.1
      have hfl := hq.fl
      have hst := hq.stop
      have hlo : q.floor ≤ q.first g := by unfold Core.first; omega
      have a := phiG_serve (s := q.body o) hq h (show 0 ≤ o by omega) (show o < 400 by omega) h1.2
      have b := phiG_serveAll hq l _ g' (gok_serve hq h h1.1 h1.2) e
      rw [List.length_cons]
      omega
theorem phi_release {c : Conf} {q : Core} (hq : COk c q) (h : 0 < q.gone c) : phi q + 1 ≤ phi (q.release c) := by
  unfold Core.gone at h
  unfold Core.release
  cases hs : q.stays c with
  | true => rw [hs] at h; simp at h
  | false =>
    rw [hs, cond_false] at h
    have f := goTo_facts hq
    have l := least_le (q := q)
    have hfl := hq.fl
    have hst : q.floor + q.bodies.length = q.stop := rfl
    have e : Core.stop { q with floor := q.goTo c, bodies := q.bodies.drop (q.goTo c - q.floor).toNat } = q.stop := by
      simp only [Core.stop, List.length_drop]
      omega
    unfold phi
    simp only [cond_false]
    rw [e]
    omega

end Go.Proofs.YtockkceclkcgbaaGreatDoor

/- Rows of bytes: what is appended to one, a text too; a row of bytes as a text. -/
namespace Go.Proofs.YtockkceclkcgbaaGreatDoor
open Go.RowKit

def byteV (b : UInt8) : Value := .int .u8 b.toNat
def byteL (l : Bs) : List Value := l.map byteV
theorem byteL_length (l : Bs) : (byteL l).length = l.length := by simp [byteL]
theorem byteL_append (a b : Bs) : byteL (a ++ b) = byteL a ++ byteL b := by simp [byteL]
theorem byteL_one (l : Bs) : ∀ u ∈ byteL l, u.oneCell' = true := by
  intro u hu
  obtain ⟨_, _, rfl⟩ := List.mem_map.1 hu
  rfl
theorem byteL_string (s : ByteArray) : byteCells s = byteL s.data.toList := rfl
theorem infoB : (Tryz.prog.info? 5).map (fun i => (i.zero, i.size, i.bytes)) = some (some (.int .u8 0), 1, 1) := by kernel_rfl
theorem mkB_size (l : Bs) : (mkB l).size = l.length := by simp [mkB, ByteArray.size]
theorem mkB_list (l : Bs) : (mkB l).data.toList = l := by simp [mkB]

/-- A row of bytes of tag t. -/
def BRow (w : World) (T : Nat → Tag) (t : Tag) (v : Value) (l : Bs) : Prop := Row w T t 5 1 v l.length (byteL l)
theorem BRow.step {S : Tag → Prop} {w w' : World} {T T' : Nat → Tag} {t : Tag} {v : Value} {l : Bs} (h : BRow w T t v l) (hs : Step S w T w' T') (ht : ¬ S t) : BRow w' T' t v l := Row.step h hs ht
theorem brow_nil (w : World) (T : Nat → Tag) (t : Tag) : BRow w T t (.slice none 0 0) [] := row_nil _ _ _ _ _

theorem run_append_bytes {w : World} {T : Nat → Tag} {t : Tag} (tx ty : TypeId) (v : Value) (l : Bs) (hR : BRow w T t v l) (x : Value) (news : Bs) (hsrc : Src Tryz.prog 1 tx x news.length (byteL news) w) (hb : l.length + news.length ≤ 140737488351232) :
    ∃ v' w' T', (Builtin.append_ #[100, tx] ty #[v, x]).run Tryz.prog w = .ok v' w' ∧ BRow w' T' t v' (l ++ news) ∧ Step (fun s => s = t) w T w' T' := by
  obtain ⟨i0, hi, hz0, hz1, hz2⟩ := info_parts infoB
  have hsrc' : Src Tryz.prog i0.size tx x news.length (byteL news) w := by rw [hz1]; exact hsrc
  have hnl : (byteL news).length = news.length := byteL_length _
  have hll : (byteL l).length = l.length := byteL_length _
  have hnew : ∀ (o : Obj), Step (fun s => s = t) w T (w.drew.alloc o) (retag T w.heap.size t) := fun o => by
    have := (step_below (fun s => s = t) T ((Below.refl w.heap.size w).drew)).trans (step_new w.drew T o t (fun s => s = t))
    exact this
  have grow : ∀ (ao : Option Addr) (cap : Nat), v = .slice ao l.length cap → cap < l.length + news.length → (Builtin.firstCells i0.size l.length (.slice ao l.length cap)).run Tryz.prog w.drew = .ok (byteL l).toArray w.drew →
      ∃ v' w' T', (Builtin.append_ #[100, tx] ty #[v, x]).run Tryz.prog w = .ok v' w' ∧ BRow w' T' t v' (l ++ news) ∧ Step (fun s => s = t) w T w' T' := by
    rintro ao cap rfl hlt hold
    have hfit : Builtin.nextslicecap (l.length + news.length) cap * i0.bytes ≤ 281474976710656 := growslice_fits hlt (by rw [hz2]; omega)
    have hr := run_append_grow_src w 100 tx ty 5 i0 _ Tryz.underlying100 hi hz0 ao l.length cap (byteL l) hold x news.length (byteL news) hsrc' hlt (by omega) hfit
    have hge := grownCap_ge w (l.length + news.length) cap 5
    refine ⟨_, _, _, hr, ⟨⟨?_, .inr ⟨w.heap.size, _, _, by rw [List.length_append], Nat.zero_le _, heap_alloc_new w.drew _, by rw [List.length_append]; exact hge, ?_, ?_, ?_⟩⟩, fun g hg => ?_⟩, hnew _⟩
    · simp [byteL_length]
    · exact grownCap_le_maxLen w _ cap 5 (by unfold maxLen; omega)
    · simp [size_zeroCells, byteL_length]
      rw [show (Value.int .u8 0).cells.size = 1 from rfl]
      omega
    · rw [byteL_append, Array.toList_append, List.take_append_of_le_length (by simp [byteL_length])]
      exact List.take_of_length_le (by simp [byteL_length])
    · simp [Value.ownBlock] at hg
      subst hg
      exact retag_same _ _ _
  rcases hR.1.2 with ⟨rfl, h0⟩ | ⟨g, cap, cur, rfl, hb0, hg, h1, h2, h3, h4⟩
  · have hl0 : l = [] := List.eq_nil_of_length_eq_zero h0
    subst hl0
    by_cases hz : news.length = 0
    · have hn0 : news = [] := List.eq_nil_of_length_eq_zero hz
      subst hn0
      refine ⟨.slice none 0 0, w, T, ?_, brow_nil _ _ _, Step.refl _ _ _⟩
      have hc : (Builtin.firstCells i0.size 0 x).run Tryz.prog w = .ok #[] w := hsrc'.cells
      have hlen : ∀ w' : World, (Builtin.lenOf x).run Tryz.prog w' = .ok 0 w' := hsrc'.len
      rcases hsrc.kind with ⟨e', hk⟩ | hk <;> simp [Builtin.append_, run_underlying Tryz.underlying100, run_underlying hk, sizeOf, typeInfo, hi, hlen, hc]
    · exact grow none 0 rfl (by simp; omega) (by simpa [byteL] using run_firstCells_none (P := Tryz.prog) w.drew i0.size 0 0 0)
  · by_cases hroom : l.length + news.length ≤ cap
    · have hst := run_storeCells_at Tryz.prog g (0 + l.length) 5 (byteL news) 0 cur w hg (by rw [hnl]; omega) (byteL_one _)
      simp only [Nat.add_zero, Nat.zero_add] at hst
      have hsz : (l.length : Nat) * i0.size = l.length := by rw [hz1]; omega
      have hcl := hsrc'.cells
      have hlen := hsrc'.len
      have hw : (w.setRow g (cur.toList.take l.length ++ byteL news ++ cur.toList.drop (l.length + (byteL news).length)).toArray).heap[g]? = some (.cells (cur.toList.take l.length ++ byteL news ++ cur.toList.drop (l.length + (byteL news).length)).toArray 5 (0, 0)) := setRow_heap w g cur _ 5 _ hg
      refine ⟨.slice (some ⟨g, 0, none⟩) (l.length + news.length) cap, w.setRow g (cur.toList.take l.length ++ byteL news ++ cur.toList.drop (l.length + (byteL news).length)).toArray, T, ?_, ⟨⟨by simp [byteL_length], .inr ⟨g, cap, _, by simp, Nat.zero_le _, hw, by simpa using hroom, h2, ?_, ?_⟩⟩, fun k hk => hR.2 k hk⟩, ?_⟩
      · rcases hsrc.kind with ⟨e', hk⟩ | hk <;> simp [Builtin.append_, run_underlying Tryz.underlying100, run_underlying hk, sizeOf, typeInfo, hi, hlen, hroom, hcl, Addr.add_lit, hsz, hst]
      · simp [byteL_length]
        omega
      · rw [byteL_append, ← h4]
        simp only [List.length_append, Nat.mul_one]
        rw [List.take_append_of_le_length (by simp [byteL_length]; omega), List.take_of_length_le (by simp [byteL_length]; omega)]
      · exact step_kept ⟨rfl, rfl, rfl, by simp [World.setRow], fun k _ hk => setRow_other w g k _ hk⟩ (fun k _ hk => by rw [show k = g from hk]; exact hR.2 g rfl) (fun _ _ => rfl)
    · refine grow _ cap rfl (by omega) ?_
      refine run_firstCells_some (P := Tryz.prog) w.drew i0.size l.length _ l.length cap (byteL l) (by rw [hz1, hll]; omega) ?_
      intro j u hj
      have hjl := (List.getElem?_eq_some_iff.1 hj).1
      rw [Addr.add_lit]
      have hcell : w.cell? ⟨g, 0 + j, none⟩ = some u := by
        simp only [World.cell?, hg]
        rw [← h4, List.getElem?_take] at hj
        split at hj
        · simpa using hj
        · cases hj
      simpa using hcell

end Go.Proofs.YtockkceclkcgbaaGreatDoor

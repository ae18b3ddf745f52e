/- What each call of the document's queue makes of the log: it stays that of the queue. -/
import Derived.Test.YtockkceclkcgbaaGreatDoorB35
namespace Go.Proofs.YtockkceclkcgbaaGreatDoor
open Go.RowKit

/-- What is leased was delivered. -/
def Lsd (m : MQ) : Prop := ∀ g ∈ m.groups, ∀ x ∈ g.items, m.time < x.till → 0 < x.tries

theorem small_items {m : MQ} (hok : m.Ok) (hsm : m.bodies.length ≤ 400) {g : MG} (hg : g ∈ m.groups) : g.items.length ≤ 1099511627776 := by rw [hok.len g hg]; omega
theorem good_kept {m : MQ} (hok : m.Ok) : 0 ≤ m.c.k := by have := good_all hok.good; omega

/-! a message -/
theorem enq_core {m : MQ} {t : ByteArray} (hr : Rels m) (hok : m.Ok) (hsm : m.bodies.length ≤ 400) (hE : menqE m t = 0) : coreM (menqM m t) = (coreM m).keep t := by
  have hfl := hok.fl
  rw [enq_groups hE]
  unfold coreM Core.keep
  congr 1
  · show (m.bodies ++ [t]).drop m.floor.toNat = _
    rw [List.drop_append_of_le_length (by omega)]
  · rw [List.map_map]
    apply List.map_congr_left
    intro g hg
    obtain ⟨hi, p, hp⟩ := hr g hg
    have h1 := rel_core hp hi.done (small_items hok hsm hg)
    have h2 := rel_enq (s := t) (ms := { m with bodies := m.bodies ++ [t], groups := m.groups.map (fun g => { g with items := g.items ++ [It.zero] }), changes := wrap64 (m.changes + 1) }) hp hi (hok.len g hg) hok.time.1 rfl rfl
    have h3 := rel_core h2 (fun x hx => by
      rcases List.mem_append.1 hx with h | h
      · exact hi.done x h
      · simp at h; rw [h]; simp) (by simp [hok.len g hg]; omega)
    show (g.name, coreG _ { g with items := g.items ++ [It.zero] }) = (g.name, coreG m g)
    rw [← h3, ← h1]
theorem keepE_same {m : MQ} {t : ByteArray} (hok : m.Ok) : (coreM m).keepE m.c t = menqE m t := by
  have hfl := hok.fl
  have h1 := coreM_stop hok
  have h2 : ((coreM m).bodies.length : Int) = m.bodies.length - m.floor := by
    simp only [coreM, List.length_drop]
    omega
  unfold Core.keepE menqE enqY
  rw [h1, h2]
  by_cases a : 400 ≤ m.bodies.length
  · have a' : (400 : Int) ≤ (m.bodies.length : Int) := by omega
    simp [a, a']
  · have a' : ¬ (400 : Int) ≤ (m.bodies.length : Int) := by omega
    simp [a, a']
theorem log_enq {m : MQ} {lg : Bs} {s : Nat} {t : ByteArray} (h : LogIs m lg s) (hr : Rels m) (hok : m.Ok) (hsm : m.bodies.length ≤ 400) : LogIs (menqM m t) (logL (decide (menqE m t = 0)) lg s 101 t.data.toList) (logS (decide (menqE m t = 0)) s 101 t.data.toList) := by
  by_cases hE : menqE m t = 0
  · have hc := enq_core hr hok hsm hE
    have hk : (coreM m).keepE m.c t = 0 := by rw [keepE_same hok, hE]
    have hsz : t.size ≤ 64 := by
      unfold menqE enqY at hE
      by_cases a : 64 < t.size
      · simp [a] at hE
      · omega
    have hl : t.data.toList.length = t.size := Array.length_toList
    rw [hE]
    refine h.add (by rw [enq_groups hE]) (by rw [hl]; omega) (fun q hq => ⟨q.keep t, ?_, by rw [hc]; exact hq.keep t⟩) (by rw [hc]; exact cok_keep h.ok hk) (by rw [hc, phi_keep, hl]; omega)
    unfold replayC
    rw [if_pos rfl, mkB_data, hq.keepE, hk]
    rfl
  · rw [decide_eq_false hE, enq_no hE]
    exact h
theorem lsd_enq {m : MQ} {t : ByteArray} (h : Lsd m) (hok : m.Ok) : Lsd (menqM m t) := by
  by_cases hE : menqE m t = 0
  · rw [enq_groups hE]
    intro g hg x hx hlt
    simp only [List.mem_map] at hg
    obtain ⟨g0, h0, rfl⟩ := hg
    rcases List.mem_append.1 hx with h1 | h1
    · exact h g0 h0 x h1 hlt
    · simp at h1
      subst h1
      have := hok.time
      simp at hlt
      omega
  · rw [enq_no hE]; exact h

/-! a group -/
theorem joinE_same {m : MQ} {s : ByteArray} {fr : Int} (hok : m.Ok) : (coreM m).joinE s fr (coreM m).floor = mgrpE m s fr := by
  unfold Core.joinE mgrpE
  rw [coreM_names, coreM_stop hok]
  simp [coreM]
theorem grp_core {m : MQ} {s : ByteArray} {fr : Int} (hok : m.Ok) (hsm : m.bodies.length ≤ 400) (hE : mgrpE m s fr = 0) : coreM (mgrpM m s fr) = (coreM m).join s fr := by
  have e0 : mgrpM m s fr = { m with groups := m.groups ++ [⟨s, fr, List.replicate m.bodies.length It.zero, []⟩], changes := wrap64 (m.changes + 1) } := by simp [mgrpM, hE]
  have hn : coreG m ⟨s, fr, List.replicate m.bodies.length It.zero, []⟩ = CG.new fr := by
    have h1 := rel_new (m := m) (s := s) (fr := fr) hok.time.1
    have h2 := rel_core h1 (fun x hx => by rw [(List.mem_replicate.1 hx).2]; simp) (by simp; omega)
    rw [← h2]
    rfl
  rw [e0]
  unfold coreM Core.join
  show (⟨m.floor, _, (m.groups ++ [_]).map _⟩ : Core) = ⟨m.floor, _, _⟩
  congr 1
  rw [List.map_append]
  congr 1
  show [(s, coreG _ _)] = [(s, CG.new fr)]
  rw [← hn]
  rfl
theorem grp_size {m : MQ} {s : ByteArray} {fr : Int} (hE : mgrpE m s fr = 0) : (1 ≤ s.size ∧ s.size ≤ 16) ∧ m.floor ≤ fr ∧ fr ≤ m.bodies.length := by
  unfold mgrpE at hE
  cases b1 : btw s.size 1 16
  · rw [b1] at hE; simp at hE
  · cases b2 : memB s m.names
    · by_cases b3 : 6 ≤ m.groups.length
      · rw [b1, b2] at hE; simp [b3] at hE
      · cases b4 : btw fr m.floor m.bodies.length
        · rw [b1, b2, b4] at hE; simp [b3] at hE
        · have h1 := btw_true b1
          have h2 := btw_true b4
          omega
    · rw [b1, b2] at hE; simp at hE
theorem log_grp {m : MQ} {lg : Bs} {s : Nat} {nm : ByteArray} {fr : Int} (h : LogIs m lg s) (hok : m.Ok) (hsm : m.bodies.length ≤ 400) : LogIs (mgrpM m nm fr) (logL (decide (mgrpE m nm fr = 0)) lg s 103 (namedB nm [fr])) (logS (decide (mgrpE m nm fr = 0)) s 103 (namedB nm [fr])) := by
  by_cases hE : mgrpE m nm fr = 0
  · have hc := grp_core hok hsm hE
    have hj := joinE_same (m := m) (s := nm) (fr := fr) hok
    rw [hE] at hj
    have hsz := grp_size hE
    have hfl := hok.fl
    have hl := namedB_length nm [fr]
    simp only [List.length_singleton] at hl
    rw [hE]
    refine h.add (by simp [mgrpM, hE]) (by rw [hl]; omega) (fun q hq => ⟨q.join nm fr, ?_, by rw [hc]; exact hq.join nm fr⟩) (by rw [hc]; exact cok_join h.ok hj) (by rw [hc, phi_join, hl]; omega)
    rw [replay_named nm [fr] (by decide) (by omega) (by simp; omega)]
    unfold replayN
    have hq2 : q.joinE nm fr q.floor = 0 := by rw [hq.floor, hq.joinE]; exact hj
    rw [if_neg (by decide)]
    show (if (103 : UInt8) = 103 then (bif decide (q.joinE nm fr q.floor = 0) then some (q.join nm fr) else none) else _) = _
    rw [if_pos rfl, hq2]
    rfl
  · rw [decide_eq_false hE, grp_no hE]
    exact h
theorem lsd_grp {m : MQ} {nm : ByteArray} {fr : Int} (h : Lsd m) (hok : m.Ok) : Lsd (mgrpM m nm fr) := by
  by_cases hE : mgrpE m nm fr = 0
  · have e0 : mgrpM m nm fr = { m with groups := m.groups ++ [⟨nm, fr, List.replicate m.bodies.length It.zero, []⟩], changes := wrap64 (m.changes + 1) } := by simp [mgrpM, hE]
    rw [e0]
    intro g hg x hx hlt
    rcases List.mem_append.1 hg with h1 | h1
    · exact h g h1 x hx hlt
    · simp at h1
      subst h1
      rw [(List.mem_replicate.1 hx).2] at hlt
      have := hok.time
      simp at hlt
      omega
  · rw [grp_no hE]; exact h

/-! an Ack -/
theorem finish_core (p : PG) (n : Int) : (finishP p n).core = p.core.finish n n := by
  rw [← finishR_one]
  rfl
theorem log_ack {m : MQ} {lg : Bs} {s : Nat} {nm : ByteArray} {off tr : Int} (h : LogIs m lg s) (hr : Rels m) (hok : m.Ok) (hsm : m.bodies.length ≤ 400) (hn : m.names.Nodup) (hsh : ∀ x ∈ m.names, x.size ≤ 16) (hl : Lsd m) :
    LogIs (ackM m nm off tr) (logL (decide (leasedE m nm off tr = 0)) lg s 97 (namedB nm [off])) (logS (decide (leasedE m nm off tr = 0)) s 97 (namedB nm [off])) := by
  by_cases hE : leasedE m nm off tr = 0
  · cases ha : m.at nm with
    | none => simp [leasedE, ha] at hE
    | some k =>
      obtain ⟨g, hg, hgn⟩ := at_group ha
      obtain ⟨n, x, rfl, hxi, hnl, hd, hlt⟩ := leased_item hok ha hg hE
      have hgm := List.mem_of_getElem? hg
      have hsz : nm.size ≤ 16 := hsh nm (List.mem_of_getElem? (idx_some ha))
      have htr := hl g hgm x (List.mem_of_getElem? hxi) hlt
      obtain ⟨hi, p, hp⟩ := hr g hgm
      have hout : m.floor ≤ n ∧ g.start ≤ n := by
        have h1 := hE
        unfold leasedE at h1
        simp only [ha, hg] at h1
        cases ho : outside m g n with
        | true => rw [ho] at h1; simp at h1
        | false => simp [outside] at ho; omega
      have eM : ackM m nm n tr = { m.setI k n { x with done := 1 } with changes := wrap64 (m.changes + 1) } := by simp [ackM, hE, onLeased_ok ha hg hxi]
      have hgk : ({ m.setI k n { x with done := 1 } with changes := wrap64 (m.changes + 1) } : MQ).groups[k]? = some { g with items := g.items.set n { x with done := 1 } } := by
        show (m.setI k n { x with done := 1 }).groups[k]? = _
        rw [setI_group, hg]; simp
      have hcg : coreG { m.setI k n { x with done := 1 } with changes := wrap64 (m.changes + 1) } { g with items := g.items.set n { x with done := 1 } } = (coreG m g).finish n n := by
        have h1 := rel_core hp hi.done (small_items hok hsm hgm)
        have h2 := rel_finish (d := 1) (ms := { m.setI k n { x with done := 1 } with changes := wrap64 (m.changes + 1) }) hp hxi (by omega) (by decide) rfl rfl
        have h3 := rel_core h2 (mem_set hi.done (by simp)) (by simp [hok.len g hgm]; omega)
        rw [← h3, finish_core, h1]
      have hc : coreM (ackM m nm n tr) = (coreM m).put nm ((coreG m g).finish n n) := by
        rw [eM]
        refine coreM_put hn ha rfl rfl setI_len (fun g1 h1 => ?_) (fun j g0 g1 hj h0 h1 => ?_)
        · rw [hgk] at h1
          cases h1
          exact ⟨hgn, hcg⟩
        · have h2 : (m.setI k n { x with done := 1 }).groups[j]? = some g1 := h1
          rw [setI_group, h0] at h2
          have : ¬ k = j := fun e => hj e.symm
          simp [this] at h2
          subst h2
          exact ⟨rfl, rfl⟩
      have hf := coreM_find hn ha hg
      have hgk0 : GOk m.c (coreM m) (coreG m g) := h.ok.grp (nm, coreG m g) ((find_mem (by rw [coreM_names]; exact hn)).1 hf)
      have htr1 : (coreG m g).tr n = x.tries := by
        show triesOf (itemAt g.items n) = _
        rw [itemAt_nat, hxi]
        simp [triesOf, hd]
      have hnd : hasB (coreG m g).done n = false := by
        cases hh : hasB (coreG m g).done n with
        | false => rfl
        | true => have := hgk0.gone n hh; omega
      have hst := coreM_stop hok
      have hfin := gok_finish hgk0 h.ok.fl h.ok.stop (show (coreM m).first (coreG m g) ≤ n by show max m.floor g.start ≤ _; omega) (show (n : Int) < (coreM m).stop by omega)
      have hph := phiG_finish h.ok hgk0 (show (0 : Int) ≤ n by omega) (by omega) hnd
      have hlen := namedB_length nm [(n : Int)]
      simp only [List.length_singleton] at hlen
      rw [hE]
      refine h.add (by rw [eM]; rfl) (by rw [hlen]; omega) (fun q hq => ⟨q.put nm ((coreG m g).finish n n), ?_, by rw [hc]; exact hq.put nm _⟩) (by rw [hc]; exact cok_put h.ok hfin) (by rw [hc, phi_put (by rw [coreM_names]; exact hn) hf, hlen]; omega)
      rw [replay_named nm [(n : Int)] (by decide) (by omega) (by simp; omega)]
      unfold replayN
      have hqf : q.find nm = some (coreG m g) := by rw [hq.find (by rw [coreM_names]; exact hn)]; exact hf
      have hnz : decide ((coreG m g).tr n = 0) = false := by rw [htr1]; simp; omega
      rw [if_neg (by decide)]
      simp only [hqf, hnz, cond_false]
      rw [if_neg (by decide), if_pos trivial]
  · have eM : ackM m nm off tr = m := by simp [ackM, hE]
    rw [decide_eq_false hE, eM]
    exact h

/-! a Retain -/
theorem least_core {m : MQ} (hr : Rels m) (hok : m.Ok) (hsm : m.bodies.length ≤ 400) : (coreM m).least = (leastTo m m.groups.length : Nat) := by
  have hmk : ∀ g ∈ m.groups, gapI (coreG m g).done (coreG m g).start = (markOf g : Nat) := fun g hg => by
    obtain ⟨hi, p, hp⟩ := hr g hg
    have h1 := rel_core hp hi.done (small_items hok hsm hg)
    rw [← h1]
    have hst := hok.start g hg
    show gapI p.done p.start = _
    rw [hp.start]
    obtain ⟨a, ha⟩ : ∃ a : Nat, g.start = a := ⟨g.start.toNat, by omega⟩
    rw [ha, gap_mark hp.set hp.done, markOf, ha]
    rfl
  unfold Core.least
  rw [coreM_stop hok]
  have key : ∀ K, K ≤ m.groups.length → ((coreM m).gs.take K).foldl (fun a p => min a (gapI p.2.done p.2.start)) (m.bodies.length : Int) = (leastTo m K : Nat) := by
    intro K
    induction K with
    | zero => intro _; rfl
    | succ K ih =>
      intro hK
      obtain ⟨g, hg⟩ : ∃ g, m.groups[K]? = some g := ⟨_, List.getElem?_eq_getElem (by omega)⟩
      have hgs : (coreM m).gs[K]? = some (g.name, coreG m g) := by simp [coreM, hg]
      obtain ⟨hk', e⟩ := List.getElem?_eq_some_iff.1 hgs
      rw [← List.take_append_getElem hk', List.foldl_append, ih (by omega), e]
      simp only [List.foldl_cons, List.foldl_nil, leastTo, hg, hmk g (List.mem_of_getElem? hg)]
      omega
  have hl : (coreM m).gs.length = m.groups.length := by simp [coreM]
  have := key m.groups.length (Nat.le_refl _)
  rw [← hl, List.take_length] at this
  rw [this, hl]
theorem ret_core {m : MQ} (hr : Rels m) (hok : m.Ok) (hsm : m.bodies.length ≤ 400) : (coreM m).gone m.c = retainN m ∧ coreM (retainM m) = (coreM m).release m.c := by
  have hl := least_core hr hok hsm
  have hseg := good_seg hok.good
  obtain ⟨Fn, e1, e2, _⟩ := retain_words m (leastTo m m.groups.length) rfl hseg.1
  have hgt : (coreM m).goTo m.c = retainTo m := by
    unfold Core.goTo
    rw [hl, e1]
    exact e2
  have hst : (coreM m).stays m.c = retainB m := by
    have hl2 : (coreM m).gs.length = m.groups.length := by simp [coreM]
    unfold Core.stays retainB
    rw [hgt, hl2]
    rfl
  refine ⟨?_, ?_⟩
  · unfold Core.gone retainN
    rw [hst, hgt]
    rfl
  · unfold Core.release retainM
    rw [hst, hgt]
    cases hb : retainB m
    · unfold retainB at hb
      simp at hb
      have hfl := hok.fl
      simp only [cond_false]
      show (⟨retainTo m, m.bodies.drop (retainTo m).toNat, _⟩ : Core) = ⟨retainTo m, (m.bodies.drop m.floor.toNat).drop (retainTo m - m.floor).toNat, _⟩
      congr 1
      rw [List.drop_drop]
      congr 1
      omega
    · rfl
theorem log_ret {m : MQ} {lg : Bs} {s : Nat} (h : LogIs m lg s) (hr : Rels m) (hok : m.Ok) (hsm : m.bodies.length ≤ 400) : LogIs (retainM m) (logL (decide (0 < retainN m)) lg s 102 []) (logS (decide (0 < retainN m)) s 102 []) := by
  obtain ⟨hg, hc⟩ := ret_core hr hok hsm
  by_cases hp : 0 < retainN m
  · rw [decide_eq_true hp]
    have hmc : (retainM m).c = m.c := by unfold retainM; cases retainB m <;> rfl
    refine h.add hmc (by simp) (fun q hq => ⟨q.release m.c, ?_, by rw [hc]; exact hq.release m.c⟩) (by rw [hc]; exact cok_release h.ok) ?_
    · unfold replayC
      rw [if_neg (by decide), if_pos rfl, hq.gone, hg, decide_eq_true hp]
      rfl
    · have := phi_release h.ok (by rw [hg]; exact hp)
      rw [hc]
      simp only [List.length_nil]
      omega
  · rw [decide_eq_false hp]
    have : retainM m = m := by
      unfold retainN at hp
      unfold retainM
      cases hb : retainB m
      · rw [hb] at hp
        unfold retainB at hb
        simp at hb
        simp only [cond_false] at hp
        omega
      · rfl
    rw [this]
    exact h
theorem lsd_ret {m : MQ} (h : Lsd m) : Lsd (retainM m) := by
  unfold retainM
  cases retainB m
  · exact h
  · exact h

end Go.Proofs.YtockkceclkcgbaaGreatDoor

/- What a Receive makes of the log; what the calls that touch times and leases alone leave. -/
namespace Go.Proofs.YtockkceclkcgbaaGreatDoor
open Go.RowKit

theorem body_same {m : MQ} {n : Nat} {s : ByteArray} (h0 : 0 ≤ m.floor) (hn : m.floor ≤ n) (hs : m.bodies[n]? = some s) : (coreM m).body n = s := by
  show (m.bodies.drop m.floor.toNat).getD ((n : Int) - m.floor).toNat ⟨#[]⟩ = s
  rw [List.getD_eq_getElem?_getD, List.getElem?_drop, show m.floor.toNat + ((n : Int) - m.floor).toNat = n by omega, hs]
  rfl
theorem served_len {m : MQ} {start n : Int} : ∀ (l : List Nat) (st : RS), (servedTo m start n l st).length ≤ l.length
  | [], _ => Nat.le_refl _
  | v :: r, st => by
    unfold servedTo
    cases decide (n ≤ st.out.length)
    · have := served_len (m := m) (start := start) (n := n) r (visit m start st v)
      simp only [cond_false, List.length_cons]
      omega
    · simp
theorem served_mem {m : MQ} {start n : Int} : ∀ (l : List Nat) (st : RS) (v : Nat), v ∈ servedTo m start n l st → v ∈ l
  | [], _, _, h => by cases h
  | u :: r, st, v, h => by
    unfold servedTo at h
    cases hd : decide (n ≤ st.out.length)
    · rw [hd, cond_false] at h
      rcases List.mem_cons.1 h with h | h
      · simp [h]
      · exact List.mem_cons_of_mem _ (served_mem r _ v h)
    · rw [hd, cond_true] at h
      cases h

/-- a Receive's walk is the replay of what it served -/
theorem walk_serve {m : MQ} {g : MG} {n : Int} (hok : m.Ok) (hsm : m.bodies.length ≤ 400) : ∀ (l : List Nat) (st : RS), l.Nodup → (∀ v ∈ l, ∃ x, st.items[v]? = some x ∧ passed m g.start v x = false) → (∃ p, RelG m (gS g st) p) → InvG m (gS g st) → st.items.length = m.bodies.length → (∀ x ∈ st.items, m.time < x.till → 0 < x.tries) →
    (coreM m).serveAll m.c (coreG m (gS g st)) (offsI (servedTo m g.start n l st)) = some (coreG m (gS g (takeV m g.start n l st))) ∧ ∀ x ∈ (takeV m g.start n l st).items, m.time < x.till → 0 < x.tries
  | [], st, _, _, _, _, _, hl => ⟨rfl, hl⟩
  | v :: r, st, hnd, hc, ⟨p, hp⟩, hi, hlen, hl => by
    by_cases hf : n ≤ st.out.length
    · rw [served_full hf, takeV_full hf]
      exact ⟨rfl, hl⟩
    · rw [served_step hf, take_step hf]
      obtain ⟨x, hxv, hpas⟩ := hc v (by simp)
      have hgood := good_all hok.good
      have hvl : v < m.bodies.length := by have := (List.getElem?_eq_some_iff.1 hxv).1; omega
      obtain ⟨sb, hsb⟩ : ∃ sb, m.bodies[v]? = some sb := ⟨_, List.getElem?_eq_getElem hvl⟩
      have hp5 : ¬ (v : Int) < m.floor ∧ ¬ (v : Int) < g.start ∧ ¬ 0 < x.done ∧ ¬ m.time < x.till ∧ ¬ m.time < x.after := by
        simp [passed] at hpas
        omega
      have hfl := hok.fl
      have hitems : (gS g st).items[v]? = some x := hxv
      have hsmall : (gS g st).items.length ≤ 1099511627776 := by show st.items.length ≤ _; omega
      have hcore := rel_core hp hi.done hsmall
      have htr : p.tr v = x.tries := by
        rw [hp.tr, itemAt_nat, hitems]
        simp [triesOf, hp5.2.2.1]
      have hx0 := hi.tries x (List.mem_of_getElem? hitems)
      have hbody := body_same hfl.1 (show m.floor ≤ v by omega) hsb
      have hst := coreM_stop hok
      have hhas : ((coreM m).has (coreG m (gS g st)) v && !hasB (coreG m (gS g st)).done v) = true := by
        have h1 : (coreM m).has (coreG m (gS g st)) v = true := by
          unfold Core.has
          rw [hst]
          show btw (v : Int) (max m.floor g.start) _ = true
          simp [btw]
          omega
        have h2 : hasB (coreG m (gS g st)).done v = false := by
          rw [← hcore]
          show hasB p.done v = false
          rw [hp.done, doneB_at, itemAt_nat, hitems]
          simpa using hp5.2.2.1
        rw [h1, h2]
        rfl
      show (coreM m).serveAll m.c (coreG m (gS g st)) ((v : Int) :: offsI (servedTo m g.start n r (visit m g.start st v))) = _ ∧ _
      unfold Core.serveAll
      rw [hhas, cond_true, hbody]
      have hev : visit m g.start st v = recvOne m g.start st v x := by simp [visit, hxv]
      have key : ∃ p', RelG m (gS g (visit m g.start st v)) p' ∧ InvG m (gS g (visit m g.start st v)) ∧ p'.core = (coreG m (gS g st)).serve m.c.d sb v ∧ (visit m g.start st v).items.length = m.bodies.length ∧ (∀ y ∈ (visit m g.start st v).items, m.time < y.till → 0 < y.tries) := by
        by_cases hE : m.c.d ≤ x.tries
        · have ev : visit m g.start st v = ⟨st.items.set v { x with done := 2 }, st.dead ++ [v], wrap64 (st.ch + 1), st.out⟩ := by simp [visit, hxv, recvOne, hpas, hE]
          have hrr := rel_bury (M := m) (M' := m) (ch := wrap64 (st.ch + 1)) (out := st.out) hp hi hxv (by omega) (by omega) hsb rfl rfl rfl
          rw [← ev] at hrr
          refine ⟨_, hrr.1, hrr.2, ?_, by rw [ev]; simpa using hlen, ?_⟩
          · rw [finish_core, ← hcore]
            unfold CG.serve
            have : decide (m.c.d ≤ p.core.tr v) = true := by show decide (m.c.d ≤ p.tr v) = true; rw [htr]; simpa using hE
            rw [this]
            rfl
          · rw [ev]
            intro y hy hlt
            rcases List.mem_or_eq_of_mem_set hy with h1 | h1
            · exact hl y h1 hlt
            · subst h1
              exact absurd hlt hp5.2.2.2.1
        · have ev : visit m g.start st v = ⟨st.items.set v { x with tries := wrap64 (x.tries + 1), till := m.time + m.c.l }, st.dead, wrap64 (st.ch + 1), st.out ++ [⟨v, wrap64 (x.tries + 1), sb⟩]⟩ := by
            simp [visit, hxv, recvOne, hpas, hE, List.getD, hsb]
          have hrr := rel_give (M := m) (M' := m) (u := m.time + m.c.l) (ch := wrap64 (st.ch + 1)) (out := st.out ++ [⟨v, wrap64 (x.tries + 1), sb⟩]) hp hi hxv (by omega) (by omega) (by omega) (by omega) (by omega) rfl rfl rfl
          rw [← ev] at hrr
          refine ⟨_, hrr.1, hrr.2, ?_, by rw [ev]; simpa using hlen, ?_⟩
          · rw [← hcore]
            unfold CG.serve
            have : decide (m.c.d ≤ p.core.tr v) = false := by show decide (m.c.d ≤ p.tr v) = false; rw [htr]; simpa using hE
            rw [this]
            rfl
          · rw [ev]
            intro y hy hlt
            rcases List.mem_or_eq_of_mem_set hy with h1 | h1
            · exact hl y h1 hlt
            · subst h1
              show 0 < wrap64 (x.tries + 1)
              rw [wrap64_small (by omega) (by omega)]
              omega
      obtain ⟨p', k1, k2, k3, k4, k5⟩ := key
      have hsm2 : (gS g (visit m g.start st v)).items.length ≤ 1099511627776 := by show (visit m g.start st v).items.length ≤ _; omega
      rw [← k3, rel_core k1 k2.done hsm2]
      exact walk_serve hok hsm r _ (List.nodup_cons.1 hnd).2 (cand_rest hnd hc) ⟨p', k1⟩ k2 k4 k5

theorem coreG_set {m : MQ} {k : Nat} {st : RS} (g : MG) : coreG (m.setG k st) g = coreG m g := rfl
theorem gS_self (g : MG) (ch : Int) (out : List Dl) : gS g ⟨g.items, g.dead, ch, out⟩ = g := rfl
theorem served_nil {m : MQ} {start n : Int} (h1 : 1 ≤ n) {l : List Nat} {st : RS} (ho : st.out = []) (h : servedTo m start n l st = []) : l = [] := by
  cases l with
  | nil => rfl
  | cons v r =>
    rw [served_step (by rw [ho]; simp; omega)] at h
    cases h

theorem log_recv {m : MQ} {lg : Bs} {s : Nat} {nm : ByteArray} {n : Int} (h : LogIs m lg s) (hr : Rels m) (hok : m.Ok) (hsm : m.bodies.length ≤ 400) (hn : m.names.Nodup) (hsh : ∀ x ∈ m.names, x.size ≤ 16) (hl : Lsd m) :
    LogIs (recvM m nm n) (logL (!(servedL m nm n).isEmpty) lg s 114 (namedB nm (servedL m nm n))) (logS (!(servedL m nm n).isEmpty) s 114 (namedB nm (servedL m nm n))) ∧ Lsd (recvM m nm n) := by
  cases ha : m.at nm with
  | none =>
    have e1 : recvM m nm n = m := by simp [recvM, ha]
    have e2 : servedL m nm n = [] := by simp [servedL, ha]
    rw [e1, e2]
    exact ⟨h, hl⟩
  | some k =>
    obtain ⟨g, hg, hgn⟩ := at_group ha
    cases hb : btw n 1 32 with
    | false =>
      have e1 : recvM m nm n = m := by simp [recvM, ha, hg, hb]
      have e2 : servedL m nm n = [] := by simp [servedL, ha, hg, hb]
      rw [e1, e2]
      exact ⟨h, hl⟩
    | true =>
      have hn1 := (btw_true hb).1
      have hgm := List.mem_of_getElem? hg
      have e1 : recvM m nm n = m.setG k (recvAll m g n) := by simp [recvM, ha, hg, hb]
      have e2 : servedL m nm n = offsI (servedAll m g n) := by simp [servedL, ha, hg, hb]
      obtain ⟨hi, p, hp⟩ := hr g hgm
      have hlen := hok.len g hgm
      have htake := recvAll_take (m := m) (g := g) (n := n) hlen
      obtain ⟨hw, hlw⟩ := walk_serve (n := n) hok hsm (againTo m g m.bodies.length ++ newTo m g m.bodies.length) ⟨g.items, g.dead, m.changes, []⟩ (take_nodup m g m.bodies.length) (fun v hv => take_cand hv) ⟨p, hp⟩ hi hlen (hl g hgm)
      rw [← htake] at hw hlw
      have hsz : nm.size ≤ 16 := hsh nm (List.mem_of_getElem? (idx_some ha))
      have hlsd : Lsd (recvM m nm n) := by
        rw [e1]
        intro g1 hg1 x hx hlt
        obtain ⟨j, hj⟩ := List.getElem?_of_mem hg1
        rcases setG_others hg j g1 hj with ⟨_, rfl⟩ | ⟨_, hj2⟩
        · exact hlw x hx hlt
        · exact hl g1 (List.mem_of_getElem? hj2) x hx hlt
      refine ⟨?_, hlsd⟩
      by_cases hs0 : servedAll m g n = []
      · have hl0 := served_nil hn1 rfl hs0
        have e3 : recvAll m g n = ⟨g.items, g.dead, m.changes, []⟩ := by rw [htake, hl0]; rfl
        rw [e1, e2, hs0, e3, setG_self hg]
        exact h
      · have hlen2 : (servedAll m g n).length ≤ 800 := by
          have q0 := served_len (m := m) (start := g.start) (n := n) (againTo m g m.bodies.length ++ newTo m g m.bodies.length) ⟨g.items, g.dead, m.changes, []⟩
          have q1 := againTo_few (m := m) (g := g) (k := m.bodies.length) (a := 0) (fun v hv => by omega)
          have q2 := newTo_few (m := m) (g := g) (k := m.bodies.length) (a := 0) (fun v hv => by omega)
          rw [List.length_append] at q0
          unfold servedAll
          omega
        have hpos : 0 < (servedAll m g n).length := List.length_pos_iff.2 hs0
        have hmem : ∀ o ∈ offsI (servedAll m g n), 0 ≤ o ∧ o < 65536 := fun o ho => by
          obtain ⟨v, hv, rfl⟩ := List.mem_map.1 ho
          obtain ⟨x, hx, _⟩ := take_cand (served_mem _ _ v hv)
          have := (List.getElem?_eq_some_iff.1 hx).1
          simp only [Int.ofNat_eq_natCast]
          omega
        have hgk : (m.setG k (recvAll m g n)).groups[k]? = some (gS g (recvAll m g n)) := setG_at hg
        have hc : coreM (recvM m nm n) = (coreM m).put nm (coreG m (gS g (recvAll m g n))) := by
          rw [e1]
          refine coreM_put hn ha rfl rfl (by simp [MQ.setG]) (fun g1 h1 => ?_) (fun j g0 g1 hj h0 h1 => ?_)
          · rw [hgk] at h1
            cases h1
            exact ⟨hgn, rfl⟩
          · rcases setG_others hg j g1 h1 with ⟨e, _⟩ | ⟨_, hj2⟩
            · exact absurd e hj
            · rw [h0] at hj2
              cases hj2
              exact ⟨rfl, rfl⟩
        have hf := coreM_find hn ha hg
        have hgk0 : GOk m.c (coreM m) (coreG m g) := h.ok.grp (nm, coreG m g) ((find_mem (by rw [coreM_names]; exact hn)).1 hf)
        have hgk1 := gok_serveAll h.ok _ _ _ hgk0 hw
        have hph := phiG_serveAll h.ok _ _ _ hgk0 hw
        rw [offsI_length] at hph
        have hsl : (servedTo m g.start n (againTo m g m.bodies.length ++ newTo m g m.bodies.length) ⟨g.items, g.dead, m.changes, []⟩).length = (servedAll m g n).length := rfl
        rw [hsl] at hph
        have hnl := namedB_length nm (offsI (servedAll m g n))
        rw [offsI_length] at hnl
        have hne : (!(offsI (servedAll m g n)).isEmpty) = true := by
          cases hs : servedAll m g n with
          | nil => exact absurd hs hs0
          | cons _ _ => rfl
        rw [e2, hne]
        refine h.add (by rw [e1]; rfl) (by rw [hnl]; omega) (fun q hq => ⟨q.put nm (coreG m (gS g (recvAll m g n))), ?_, by rw [hc]; exact hq.put nm _⟩) (by rw [hc]; exact cok_put h.ok hgk1) (by rw [hc, phi_put (by rw [coreM_names]; exact hn) hf, hnl]; omega)
        rw [replay_named nm _ (by decide) (by omega) hmem]
        unfold replayN
        have hqf : q.find nm = some (coreG m g) := by rw [hq.find (by rw [coreM_names]; exact hn)]; exact hf
        have hne2 : offsI (servedAll m g n) ≠ [] := by
          intro e
          rw [e] at hne
          cases hne
        rw [if_pos rfl, hqf]
        simp only [if_neg hne2]
        rw [hq.serveAll]
        have hw2 : (coreM m).serveAll m.c (coreG m g) (offsI (servedAll m g n)) = some (coreG m (gS g (recvAll m g n))) := hw
        rw [hw2]
        rfl

end Go.Proofs.YtockkceclkcgbaaGreatDoor

/- The calls that touch times and leases alone leave the log; what is leased was delivered, behind every call. -/
namespace Go.Proofs.YtockkceclkcgbaaGreatDoor
open Go.RowKit

theorem lsd_set {m : MQ} {k n : Nat} {g : MG} {y : It} (h : Lsd m) (hg : m.groups[k]? = some g) (hy : m.time < y.till → 0 < y.tries) : Lsd (m.setI k n y) := by
  intro g1 hg1 z hz hlt
  obtain ⟨j, hj⟩ := List.getElem?_of_mem hg1
  rcases setI_others hg j g1 hj with ⟨_, rfl⟩ | ⟨_, hj2⟩
  · rcases List.mem_or_eq_of_mem_set hz with h1 | h1
    · exact h g (List.mem_of_getElem? hg) z h1 hlt
    · subst h1; exact hy hlt
  · exact h g1 (List.mem_of_getElem? hj2) z hz hlt
/-- one item's times are others -/
theorem core_times {m : MQ} {k n : Nat} {g : MG} {y : It} {p p' : PG} (hok : m.Ok) (hsm : m.bodies.length ≤ 400) (hg : m.groups[k]? = some g) (hi : InvG m g) (hp : RelG m g p) (hp' : RelG (m.setI k n y) { g with items := g.items.set n y } p') (hi' : ∀ x ∈ g.items.set n y, 0 ≤ x.done) (hc : p'.core = p.core) : coreM (m.setI k n y) = coreM m := by
  have hgm := List.mem_of_getElem? hg
  refine coreM_same rfl rfl setI_len (fun j g0 g1 h0 h1 => ?_)
  rcases setI_others hg j g1 h1 with ⟨rfl, rfl⟩ | ⟨_, hj2⟩
  · rw [hg] at h0
    cases h0
    refine ⟨rfl, ?_⟩
    rw [← rel_core hp hi.done (small_items hok hsm hgm), ← hc]
    exact (rel_core hp' hi' (by simp [hok.len g hgm]; omega)).symm
  · rw [h0] at hj2
    cases hj2
    exact ⟨rfl, rfl⟩

theorem log_nack {m : MQ} {lg : Bs} {s : Nat} {nm : ByteArray} {off tr d : Int} (h : LogIs m lg s) (hr : Rels m) (hok : m.Ok) (hsm : m.bodies.length ≤ 400) (hl : Lsd m) : LogIs (nackM m nm off tr d) lg s ∧ Lsd (nackM m nm off tr d) := by
  by_cases hE : rangedE m nm off tr d 0 = 0
  · cases ha : m.at nm with
    | none => simp [rangedE, ha, leasedE] at hE
    | some k =>
      obtain ⟨g, hg, _⟩ := at_group ha
      have hE2 : leasedE m nm off tr = 0 := by
        unfold rangedE at hE
        cases hb : ((m.at nm).isSome && !btw d 0 60000)
        · rw [hb] at hE; exact hE
        · rw [hb] at hE; simp at hE
      obtain ⟨n, x, rfl, hxi, hnl, hd, hlt⟩ := leased_item hok ha hg hE2
      have hgm := List.mem_of_getElem? hg
      obtain ⟨hi, p, hp⟩ := hr g hgm
      have eM : nackM m nm n tr d = m.setI k n { x with till := 0, after := m.time + d } := by simp [nackM, hE, onLeased_ok ha hg hxi]
      have ht := hok.time
      rw [eM]
      refine ⟨h.same rfl ?_, lsd_set hl hg (fun h => by have : m.time < 0 := h; omega)⟩
      exact core_times hok hsm hg hi hp (rel_nack (ms := m.setI k n { x with till := 0, after := m.time + d }) hp hxi hd ht.1 rfl rfl) (mem_set hi.done (hi.done x (List.mem_of_getElem? hxi))) rfl
  · have eM : nackM m nm off tr d = m := by simp [nackM, hE]
    rw [eM]
    exact ⟨h, hl⟩
theorem log_ext {m : MQ} {lg : Bs} {s : Nat} {nm : ByteArray} {off tr d : Int} (h : LogIs m lg s) (hr : Rels m) (hok : m.Ok) (hsm : m.bodies.length ≤ 400) (hl : Lsd m) : LogIs (extendM m nm off tr d) lg s ∧ Lsd (extendM m nm off tr d) := by
  by_cases hE : rangedE m nm off tr d 1 = 0
  · cases ha : m.at nm with
    | none => simp [rangedE, ha, leasedE] at hE
    | some k =>
      obtain ⟨g, hg, _⟩ := at_group ha
      have hE2 : leasedE m nm off tr = 0 ∧ btw d 1 60000 = true := by
        unfold rangedE at hE
        cases hb : btw d 1 60000
        · rw [hb, ha] at hE; simp at hE
        · rw [hb] at hE; simp at hE; exact ⟨hE, rfl⟩
      obtain ⟨n, x, rfl, hxi, hnl, hd, hlt⟩ := leased_item hok ha hg hE2.1
      have hd1 := (btw_true hE2.2).1
      have hgm := List.mem_of_getElem? hg
      obtain ⟨hi, p, hp⟩ := hr g hgm
      have eM : extendM m nm n tr d = m.setI k n { x with till := m.time + d } := by simp [extendM, hE, onLeased_ok ha hg hxi]
      have htr := hl g hgm x (List.mem_of_getElem? hxi) hlt
      rw [eM]
      refine ⟨h.same rfl ?_, lsd_set hl hg (fun _ => htr)⟩
      exact core_times hok hsm hg hi hp (rel_extend (ms := m.setI k n { x with till := m.time + d }) hp hxi hd (by omega) rfl rfl) (mem_set hi.done (hi.done x (List.mem_of_getElem? hxi))) rfl
  · have eM : extendM m nm off tr d = m := by simp [extendM, hE]
    rw [eM]
    exact ⟨h, hl⟩
theorem lsd_ack {m : MQ} {nm : ByteArray} {off tr : Int} (hok : m.Ok) (hl : Lsd m) : Lsd (ackM m nm off tr) := by
  by_cases hE : leasedE m nm off tr = 0
  · cases ha : m.at nm with
    | none => simp [leasedE, ha] at hE
    | some k =>
      obtain ⟨g, hg, _⟩ := at_group ha
      obtain ⟨n, x, rfl, hxi, hnl, hd, hlt⟩ := leased_item hok ha hg hE
      have eM : ackM m nm n tr = { m.setI k n { x with done := 1 } with changes := wrap64 (m.changes + 1) } := by simp [ackM, hE, onLeased_ok ha hg hxi]
      rw [eM]
      have htr := hl g (List.mem_of_getElem? hg) x (List.mem_of_getElem? hxi) hlt
      exact lsd_set (y := { x with done := 1 }) hl hg (fun _ => htr)
  · have eM : ackM m nm off tr = m := by simp [ackM, hE]
    rw [eM]; exact hl
theorem log_tick {m : MQ} {lg : Bs} {s : Nat} {d : Int} (h : LogIs m lg s) (hl : Lsd m) : LogIs (tickM m d) lg s ∧ Lsd (tickM m d) := by
  unfold tickM
  cases hb : btw d 0 60000
  · exact ⟨h, hl⟩
  · have hd := (btw_true hb).1
    refine ⟨h.same rfl rfl, fun g hg x hx hlt => hl g hg x hx ?_⟩
    have : m.time + d < x.till := hlt
    omega
/-- a new queue's log -/
theorem log_new {c : Conf} (hc : goodC c = true) : LogIs ⟨c, [], 0, [], 0, 0⟩ [] (seedS c) ∧ Lsd ⟨c, [], 0, [], 0, 0⟩ := by
  have hg := good_all hc
  have hz : coreM ⟨c, [], 0, [], 0, 0⟩ = .zero := rfl
  refine ⟨⟨by have := crcF_lt 0 (encN 2 c.l.toNat ++ (encN 2 c.d.toNat ++ (encN 2 c.s.toNat ++ encN 2 c.k.toNat))); simpa [seedS] using this, ?_, ?_, .zero, told_zero c, ?_⟩, fun g hg => by cases hg⟩
  · rw [hz]
    exact cok_zero hg.2.1 hg.2.2.1.1 hg.2.2.2.2 (by show 0 ≤ c.k; omega)
  · rw [hz]
    unfold phi
    simp [Core.zero, Core.stop, phiL]
  · rw [hz]
    exact Same.refl _

/-- The program's queue of number i, in block b: it tells the document's queue m, and so does its log. -/
def X (w : World) (T : Nat → Tag) (i b : Nat) (m : MQ) : Prop := ∃ (vL : Value) (s : Nat) (lg : Bs), XM w T i b m vL (.int .u32 s) lg ∧ LogIs m lg s ∧ Lsd m
theorem X.step {S : Tag → Prop} {w w' : World} {T T' : Nat → Tag} {i b : Nat} {m : MQ} (h : X w T i b m) (hs : Step S w T w' T') (hS : ∀ t, XT i t → ¬ S t) : X w' T' i b m := by
  obtain ⟨vL, s, lg, hx, h2⟩ := h
  exact ⟨vL, s, lg, hx.step hs hS, h2⟩

end Go.Proofs.YtockkceclkcgbaaGreatDoor

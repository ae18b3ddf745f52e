/- What a Receive makes of the log; what the calls that touch times and leases alone leave. -/
import Derived.Test.YtockkceclkcgbaaGreatDoorX01
import Derived.Test.YtockkceclkcgbaaGreatDoorTie
import Derived.Test.YtockkceclkcgbaaGreatDoorCards
import Derived.Handed
import Derived.LaidLaws
import Derived.LaidHandle
import Derived.Stop.LaidTwo
import Derived.RowKit
namespace Go.Proofs.YtockkceclkcgbaaGreatDoor
open Go.RowKit

theorem body_same {m : MQ} {n : Nat} {s : ByteArray} (h0 : 0 ≤ m.floor) (hn : m.floor ≤ n) (hs : m.bodies[n]? = some s) : (coreM m).body n = s := by
  show (m.bodies.drop m.floor.toNat).getD ((n : Int) - m.floor).toNat ⟨#[]⟩ = s
  rw [List.getD_eq_getElem?_getD, List.getElem?_drop, show m.floor.toNat + ((n : Int) - m.floor).toNat = n by omega, hs]
  rfl
theorem served_len {m : MQ} {start n : Int} : ∀ (l : List Nat) (st : RS), (servedTo m start n l st).length ≤ l.length
  | [], _ => Nat.le_refl _
  | v :: r, st => by
    unfold servedTo
    cases decide (n ≤ st.out.length)
    · have := served_len (m := m) (start := start) (n := n) r (visit m start st v)
      simp only [cond_false, List.length_cons]
      omega
    · simp
theorem served_mem {m : MQ} {start n : Int} : ∀ (l : List Nat) (st : RS) (v : Nat), v ∈ servedTo m start n l st → v ∈ l
  | [], _, _, h => by cases h
  | u :: r, st, v, h => by
    unfold servedTo at h
    cases hd : decide (n ≤ st.out.length)
    · rw [hd, cond_false] at h
      rcases List.mem_cons.1 h with h | h
      · simp [h]
      · exact List.mem_cons_of_mem _ (served_mem r _ v h)
    · rw [hd, cond_true] at h
      cases h

/-- a Receive's walk is the replay of what it served -/
theorem walk_serve {m : MQ} {g : MG} {n : Int} (hok : m.Ok) (hsm : m.bodies.length ≤ 400) : ∀ (l : List Nat) (st : RS), l.Nodup → (∀ v ∈ l, ∃ x, st.items[v]? = some x ∧ passed m g.start v x = false) → (∃ p, RelG m (gS g st) p) → InvG m (gS g st) → st.items.length = m.bodies.length → (∀ x ∈ st.items, m.time < x.till → 0 < x.tries) →
    (coreM m).serveAll m.c (coreG m (gS g st)) (offsI (servedTo m g.start n l st)) = some (coreG m (gS g (takeV m g.start n l st))) ∧ ∀ x ∈ (takeV m g.start n l st).items, m.time < x.till → 0 < x.tries
  | [], st, _, _, _, _, _, hl => ⟨rfl, hl⟩
  | v :: r, st, hnd, hc, ⟨p, hp⟩, hi, hlen, hl => by
    by_cases hf : n ≤ st.out.length
    · rw [served_full hf, takeV_full hf]
      exact ⟨rfl, hl⟩
    · rw [served_step hf, take_step hf]
      obtain ⟨x, hxv, hpas⟩ := hc v (by simp)
      have hgood := good_all hok.good
      have hvl : v < m.bodies.length := by have := (List.getElem?_eq_some_iff.1 hxv).1; omega
      obtain ⟨sb, hsb⟩ : ∃ sb, m.bodies[v]? = some sb := ⟨_, List.getElem?_eq_getElem hvl⟩
      have hp5 : ¬ (v : Int) < m.floor ∧ ¬ (v : Int) < g.start ∧ ¬ 0 < x.done ∧ ¬ m.time < x.till ∧ ¬ m.time < x.after := by
        simp [passed] at hpas
        omega
      have hfl := hok.fl
      have hitems : (gS g st).items[v]? = some x := hxv
      have hsmall : (gS g st).items.length ≤ 1099511627776 := by show st.items.length ≤ _; omega
      have hcore := rel_core hp hi.done hsmall
      have htr : p.tr v = x.tries := by
        rw [hp.tr, itemAt_nat, hitems]
        simp [triesOf, hp5.2.2.1]
      have hx0 := hi.tries x (List.mem_of_getElem? hitems)
      have hbody := body_same hfl.1 (show m.floor ≤ v by omega) hsb
      have hst := coreM_stop hok
      have hhas : ((coreM m).has (coreG m (gS g st)) v && !hasB (coreG m (gS g st)).done v) = true := by
        have h1 : (coreM m).has (coreG m (gS g st)) v = true := by
          unfold Core.has
          rw [hst]
          show btw (v : Int) (max m.floor g.start) _ = true
          simp [btw]
          omega
        have h2 : hasB (coreG m (gS g st)).done v = false := by
          rw [← hcore]
          show hasB p.done v = false
          rw [hp.done, doneB_at, itemAt_nat, hitems]
          simpa using hp5.2.2.1
        rw [h1, h2]
        rfl
      show (coreM m).serveAll m.c (coreG m (gS g st)) ((v : Int) :: offsI (servedTo m g.start n r (visit m g.start st v))) = _ ∧ _
      unfold Core.serveAll
      rw [hhas, cond_true, hbody]
      have hev : visit m g.start st v = recvOne m g.start st v x := by simp [visit, hxv]
      have key : ∃ p', RelG m (gS g (visit m g.start st v)) p' ∧ InvG m (gS g (visit m g.start st v)) ∧ p'.core = (coreG m (gS g st)).serve m.c.d sb v ∧ (visit m g.start st v).items.length = m.bodies.length ∧ (∀ y ∈ (visit m g.start st v).items, m.time < y.till → 0 < y.tries) := by
        by_cases hE : m.c.d ≤ x.tries
        · have ev : visit m g.start st v = ⟨st.items.set v { x with done := 2 }, st.dead ++ [v], wrap64 (st.ch + 1), st.out⟩ := by simp [visit, hxv, recvOne, hpas, hE]
          have hrr := rel_bury (M := m) (M' := m) (ch := wrap64 (st.ch + 1)) (out := st.out) hp hi hxv (by omega) (by omega) hsb rfl rfl rfl
          rw [← ev] at hrr
          refine ⟨_, hrr.1, hrr.2, ?_, by rw [ev]; simpa using hlen, ?_⟩
          · rw [finish_core, ← hcore]
            unfold CG.serve
            have : decide (m.c.d ≤ p.core.tr v) = true := by show decide (m.c.d ≤ p.tr v) = true; rw [htr]; simpa using hE
            rw [this]
            rfl
          · rw [ev]
            intro y hy hlt
            rcases List.mem_or_eq_of_mem_set hy with h1 | h1
            · exact hl y h1 hlt
            · subst h1
              exact absurd hlt hp5.2.2.2.1
        · have ev : visit m g.start st v = ⟨st.items.set v { x with tries := wrap64 (x.tries + 1), till := m.time + m.c.l }, st.dead, wrap64 (st.ch + 1), st.out ++ [⟨v, wrap64 (x.tries + 1), sb⟩]⟩ := by
            simp [visit, hxv, recvOne, hpas, hE, List.getD, hsb]
          have hrr := rel_give (M := m) (M' := m) (u := m.time + m.c.l) (ch := wrap64 (st.ch + 1)) (out := st.out ++ [⟨v, wrap64 (x.tries + 1), sb⟩]) hp hi hxv (by omega) (by omega) (by omega) (by omega) (by omega) rfl rfl rfl
          rw [← ev] at hrr
          refine ⟨_, hrr.1, hrr.2, ?_, by rw [ev]; simpa using hlen, ?_⟩
          · rw [← hcore]
            unfold CG.serve
            have : decide (m.c.d ≤ p.core.tr v) = false := by show decide (m.c.d ≤ p.tr v) = false; rw [htr]; simpa using hE
            rw [this]
            rfl
          · rw [ev]
            intro y hy hlt
            rcases List.mem_or_eq_of_mem_set hy with h1 | h1
            · exact hl y h1 hlt
            · subst h1
              show 0 < wrap64 (x.tries + 1)
              rw [wrap64_small (by omega) (by omega)]
              omega
      obtain ⟨p', k1, k2, k3, k4, k5⟩ := key
      have hsm2 : (gS g (visit m g.start st v)).items.length ≤ 1099511627776 := by show (visit m g.start st v).items.length ≤ _; omega
      rw [← k3, rel_core k1 k2.done hsm2]
      exact walk_serve hok hsm r _ (List.nodup_cons.1 hnd).2 (cand_rest hnd hc) ⟨p', k1⟩ k2 k4 k5

theorem coreG_set {m : MQ} {k : Nat} {st : RS} (g : MG) : coreG (m.setG k st) g = coreG m g := rfl
theorem gS_self (g : MG) (ch : Int) (out : List Dl) : gS g ⟨g.items, g.dead, ch, out⟩ = g := rfl
theorem served_nil {m : MQ} {start n : Int} (h1 : 1 ≤ n) {l : List Nat} {st : RS} (ho : st.out = []) (h : servedTo m start n l st = []) : l = [] := by
  cases l with
  | nil => rfl
  | cons v r =>
    rw [served_step (by rw [ho]; simp; omega)] at h
    cases h

theorem log_recv {m : MQ} {lg : Bs} {s : Nat} {nm : ByteArray} {n : Int} (h : LogIs m lg s) (hr : Rels m) (hok : m.Ok) (hsm : m.bodies.length ≤ 400) (hn : m.names.Nodup) (hsh : ∀ x ∈ m.names, x.size ≤ 16) (hl : Lsd m) :
    LogIs (recvM m nm n) (logL (!(servedL m nm n).isEmpty) lg s 114 (namedB nm (servedL m nm n))) (logS (!(servedL m nm n).isEmpty) s 114 (namedB nm (servedL m nm n))) ∧ Lsd (recvM m nm n) := by
  cases ha : m.at nm with
  | none =>
    have e1 : recvM m nm n = m := by simp [recvM, ha]
    have e2 : servedL m nm n = [] := by simp [servedL, ha]
    rw [e1, e2]
    exact ⟨h, hl⟩
  | some k =>
    obtain ⟨g, hg, hgn⟩ := at_group ha
    cases hb : btw n 1 32 with
    | false =>
      have e1 : recvM m nm n = m := by simp [recvM, ha, hg, hb]
      have e2 : servedL m nm n = [] := by simp [servedL, ha, hg, hb]
      rw [e1, e2]
      exact ⟨h, hl⟩
    | true =>
      have hn1 := (btw_true hb).1
      have hgm := List.mem_of_getElem? hg
      have e1 : recvM m nm n = m.setG k (recvAll m g n) := by simp [recvM, ha, hg, hb]
      have e2 : servedL m nm n = offsI (servedAll m g n) := by simp [servedL, ha, hg, hb]
      obtain ⟨hi, p, hp⟩ := hr g hgm
      have hlen := hok.len g hgm
      have htake := recvAll_take (m := m) (g := g) (n := n) hlen
      obtain ⟨hw, hlw⟩ := walk_serve (n := n) hok hsm (againTo m g m.bodies.length ++ newTo m g m.bodies.length) ⟨g.items, g.dead, m.changes, []⟩ (take_nodup m g m.bodies.length) (fun v hv => take_cand hv) ⟨p, hp⟩ hi hlen (hl g hgm)
      rw [← htake] at hw hlw
      have hsz : nm.size ≤ 16 := hsh nm (List.mem_of_getElem? (idx_some ha))
      have hlsd : Lsd (recvM m nm n) := by
        rw [e1]
        intro g1 hg1 x hx hlt
        obtain ⟨j, hj⟩ := List.getElem?_of_mem hg1
        rcases setG_others hg j g1 hj with ⟨_, rfl⟩ | ⟨_, hj2⟩
        · exact hlw x hx hlt
        · exact hl g1 (List.mem_of_getElem? hj2) x hx hlt
      refine ⟨?_, hlsd⟩
      by_cases hs0 : servedAll m g n = []
      · have hl0 := served_nil hn1 rfl hs0
        have e3 : recvAll m g n = ⟨g.items, g.dead, m.changes, []⟩ := by rw [htake, hl0]; rfl
        rw [e1, e2, hs0, e3, setG_self hg]
        exact h
      · have hlen2 : (servedAll m g n).length ≤ 800 := by
          have q0 := served_len (m := m) (start := g.start) (n := n) (againTo m g m.bodies.length ++ newTo m g m.bodies.length) ⟨g.items, g.dead, m.changes, []⟩
          have q1 := againTo_few (m := m) (g := g) (k := m.bodies.length) (a := 0) (fun v hv => by omega)
          have q2 := newTo_few (m := m) (g := g) (k := m.bodies.length) (a := 0) (fun v hv => by omega)
          rw [List.length_append] at q0
          unfold servedAll
          omega
        have hpos : 0 < (servedAll m g n).length := List.length_pos_iff.2 hs0
        have hmem : ∀ o ∈ offsI (servedAll m g n), 0 ≤ o ∧ o < 65536 := fun o ho => by
          obtain ⟨v, hv, rfl⟩ := List.mem_map.1 ho
          obtain ⟨x, hx, _⟩ := take_cand (served_mem _ _ v hv)
          have := (List.getElem?_eq_some_iff.1 hx).1
          simp only [Int.ofNat_eq_natCast]
          omega
        have hgk : (m.setG k (recvAll m g n)).groups[k]? = some (gS g (recvAll m g n)) := setG_at hg
        have hc : coreM (recvM m nm n) = (coreM m).put nm (coreG m (gS g (recvAll m g n))) := by
          rw [e1]
          refine coreM_put hn ha rfl rfl (by simp [MQ.setG]) (fun g1 h1 => ?_) (fun j g0 g1 hj h0 h1 => ?_)
          · rw [hgk] at h1
            cases h1
            exact ⟨hgn, rfl⟩
          · rcases setG_others hg j g1 h1 with ⟨e, _⟩ | ⟨_, hj2⟩
            · exact absurd e hj
            · rw [h0] at hj2
              cases hj2
              exact ⟨rfl, rfl⟩
        have hf := coreM_find hn ha hg
        have hgk0 : GOk m.c (coreM m) (coreG m g) := h.ok.grp (nm, coreG m g) ((find_mem (by rw [coreM_names]; exact hn)).1 hf)
        have hgk1 := gok_serveAll h.ok _ _ _ hgk0 hw
        have hph := phiG_serveAll h.ok _ _ _ hgk0 hw
        rw [offsI_length] at hph
        have hsl : (servedTo m g.start n (againTo m g m.bodies.length ++ newTo m g m.bodies.length) ⟨g.items, g.dead, m.changes, []⟩).length = (servedAll m g n).length := rfl
        rw [hsl] at hph
        have hnl := namedB_length nm (offsI (servedAll m g n))
        rw [offsI_length] at hnl
        have hne : (!(offsI (servedAll m g n)).isEmpty) = true := by
          cases hs : servedAll m g n with
          | nil => exact absurd hs hs0
          | cons _ _ => rfl
        rw [e2, hne]
        refine h.add (by rw [e1]; rfl) (by rw [hnl]; omega) (fun q hq => ⟨q.put nm (coreG m (gS g (recvAll m g n))), ?_, by rw [hc]; exact hq.put nm _⟩) (by rw [hc]; exact cok_put h.ok hgk1) (by rw [hc, phi_put (by rw [coreM_names]; exact hn) hf, hnl]; omega)
        rw [replay_named nm _ (by decide) (by omega) hmem]
        unfold replayN
        have hqf : q.find nm = some (coreG m g) := by rw [hq.find (by rw [coreM_names]; exact hn)]; exact hf
        have hne2 : offsI (servedAll m g n) ≠ [] := by
          intro e
          rw [e] at hne
          cases hne
        rw [if_pos rfl, hqf]
        simp only [if_neg hne2]
        rw [hq.serveAll]
        have hw2 : (coreM m).serveAll m.c (coreG m g) (offsI (servedAll m g n)) = some (coreG m (gS g (recvAll m g n))) := hw
        rw [hw2]
        rfl

end Go.Proofs.YtockkceclkcgbaaGreatDoor

/- The calls that touch times and leases alone leave the log; what is leased was delivered, behind every call. -/
namespace Go.Proofs.YtockkceclkcgbaaGreatDoor
open Go.RowKit

theorem lsd_set {m : MQ} {k n : Nat} {g : MG} {y : It} (h : Lsd m) (hg : m.groups[k]? = some g) (hy : m.time < y.till → 0 < y.tries) : Lsd (m.setI k n y) := by
  intro g1 hg1 z hz hlt
  obtain ⟨j, hj⟩ := List.getElem?_of_mem hg1
  rcases setI_others hg j g1 hj with ⟨_, rfl⟩ | ⟨_, hj2⟩
  · rcases List.mem_or_eq_of_mem_set hz with h1 | h1
    · exact h g (List.mem_of_getElem? hg) z h1 hlt
    · subst h1; exact hy hlt
  · exact h g1 (List.mem_of_getElem? hj2) z hz hlt
/-- one item's times are others -/
theorem core_times {m : MQ} {k n : Nat} {g : MG} {y : It} {p p' : PG} (hok : m.Ok) (hsm : m.bodies.length ≤ 400) (hg : m.groups[k]? = some g) (hi : InvG m g) (hp : RelG m g p) (hp' : RelG (m.setI k n y) { g with items := g.items.set n y } p') (hi' : ∀ x ∈ g.items.set n y, 0 ≤ x.done) (hc : p'.core = p.core) : coreM (m.setI k n y) = coreM m := by
  have hgm := List.mem_of_getElem? hg
  refine coreM_same rfl rfl setI_len (fun j g0 g1 h0 h1 => ?_)
  rcases setI_others hg j g1 h1 with ⟨rfl, rfl⟩ | ⟨_, hj2⟩
  · rw [hg] at h0
    cases h0
    refine ⟨rfl, ?_⟩
    rw [← rel_core hp hi.done (small_items hok hsm hgm), ← hc]
    exact (rel_core hp' hi' (by simp [hok.len g hgm]; omega)).symm
  · rw [h0] at hj2
    cases hj2
    exact ⟨rfl, rfl⟩

theorem log_nack {m : MQ} {lg : Bs} {s : Nat} {nm : ByteArray} {off tr d : Int} (h : LogIs m lg s) (hr : Rels m) (hok : m.Ok) (hsm : m.bodies.length ≤ 400) (hl : Lsd m) : LogIs (nackM m nm off tr d) lg s ∧ Lsd (nackM m nm off tr d) := by
  by_cases hE : rangedE m nm off tr d 0 = 0
  · cases ha : m.at nm with
    | none => simp [rangedE, ha, leasedE] at hE
    | some k =>
      obtain ⟨g, hg, _⟩ := at_group ha
      have hE2 : leasedE m nm off tr = 0 := by
        unfold rangedE at hE
        cases hb : ((m.at nm).isSome && !btw d 0 60000)
        · rw [hb] at hE; exact hE
        · rw [hb] at hE; simp at hE
      obtain ⟨n, x, rfl, hxi, hnl, hd, hlt⟩ := leased_item hok ha hg hE2
      have hgm := List.mem_of_getElem? hg
      obtain ⟨hi, p, hp⟩ := hr g hgm
      have eM : nackM m nm n tr d = m.setI k n { x with till := 0, after := m.time + d } := by simp [nackM, hE, onLeased_ok ha hg hxi]
      have ht := hok.time
      rw [eM]
      refine ⟨h.same rfl ?_, lsd_set hl hg (fun h => by have : m.time < 0 := h; omega)⟩
      exact core_times hok hsm hg hi hp (rel_nack (ms := m.setI k n { x with till := 0, after := m.time + d }) hp hxi hd ht.1 rfl rfl) (mem_set hi.done (hi.done x (List.mem_of_getElem? hxi))) rfl
  · have eM : nackM m nm off tr d = m := by simp [nackM, hE]
    rw [eM]
    exact ⟨h, hl⟩
theorem log_ext {m : MQ} {lg : Bs} {s : Nat} {nm : ByteArray} {off tr d : Int} (h : LogIs m lg s) (hr : Rels m) (hok : m.Ok) (hsm : m.bodies.length ≤ 400) (hl : Lsd m) : LogIs (extendM m nm off tr d) lg s ∧ Lsd (extendM m nm off tr d) := by
  by_cases hE : rangedE m nm off tr d 1 = 0
  · cases ha : m.at nm with
    | none => simp [rangedE, ha, leasedE] at hE
    | some k =>
      obtain ⟨g, hg, _⟩ := at_group ha
      have hE2 : leasedE m nm off tr = 0 ∧ btw d 1 60000 = true := by
        unfold rangedE at hE
        cases hb : btw d 1 60000
        · rw [hb, ha] at hE; simp at hE
        · rw [hb] at hE; simp at hE; exact ⟨hE, rfl⟩
      obtain ⟨n, x, rfl, hxi, hnl, hd, hlt⟩ := leased_item hok ha hg hE2.1
      have hd1 := (btw_true hE2.2).1
      have hgm := List.mem_of_getElem? hg
      obtain ⟨hi, p, hp⟩ := hr g hgm
      have eM : extendM m nm n tr d = m.setI k n { x with till := m.time + d } := by simp [extendM, hE, onLeased_ok ha hg hxi]
      have htr := hl g hgm x (List.mem_of_getElem? hxi) hlt
      rw [eM]
      refine ⟨h.same rfl ?_, lsd_set hl hg (fun _ => htr)⟩
      exact core_times hok hsm hg hi hp (rel_extend (ms := m.setI k n { x with till := m.time + d }) hp hxi hd (by omega) rfl rfl) (mem_set hi.done (hi.done x (List.mem_of_getElem? hxi))) rfl
  · have eM : extendM m nm off tr d = m := by simp [extendM, hE]
    rw [eM]
    exact ⟨h, hl⟩
theorem lsd_ack {m : MQ} {nm : ByteArray} {off tr : Int} (hok : m.Ok) (hl : Lsd m) : Lsd (ackM m nm off tr) := by
  by_cases hE : leasedE m nm off tr = 0
  · cases ha : m.at nm with
    | none => simp [leasedE, ha] at hE
    | some k =>
      obtain ⟨g, hg, _⟩ := at_group ha
      obtain ⟨n, x, rfl, hxi, hnl, hd, hlt⟩ := leased_item hok ha hg hE
      have eM : ackM m nm n tr = { m.setI k n { x with done := 1 } with changes := wrap64 (m.changes + 1) } := by simp [ackM, hE, onLeased_ok ha hg hxi]
      rw [eM]
      have htr := hl g (List.mem_of_getElem? hg) x (List.mem_of_getElem? hxi) hlt
      exact lsd_set (y := { x with done := 1 }) hl hg (fun _ => htr)
  · have eM : ackM m nm off tr = m := by simp [ackM, hE]
    rw [eM]; exact hl
theorem log_tick {m : MQ} {lg : Bs} {s : Nat} {d : Int} (h : LogIs m lg s) (hl : Lsd m) : LogIs (tickM m d) lg s ∧ Lsd (tickM m d) := by
  unfold tickM
  cases hb : btw d 0 60000
  · exact ⟨h, hl⟩
  · have hd := (btw_true hb).1
    refine ⟨h.same rfl rfl, fun g hg x hx hlt => hl g hg x hx ?_⟩
    have : m.time + d < x.till := hlt
    omega
/-- a new queue's log -/
theorem log_new {c : Conf} (hc : goodC c = true) : LogIs ⟨c, [], 0, [], 0, 0⟩ [] (seedS c) ∧ Lsd ⟨c, [], 0, [], 0, 0⟩ := by
  have hg := good_all hc
  have hz : coreM ⟨c, [], 0, [], 0, 0⟩ = .zero := rfl
  refine ⟨⟨by have := crcF_lt 0 (encN 2 c.l.toNat ++ (encN 2 c.d.toNat ++ (encN 2 c.s.toNat ++ encN 2 c.k.toNat))); simpa [seedS] using this, ?_, ?_, .zero, told_zero c, ?_⟩, fun g hg => by cases hg⟩
  · rw [hz]
    exact cok_zero hg.2.1 hg.2.2.1.1 hg.2.2.2.2 (by show 0 ≤ c.k; omega)
  · rw [hz]
    unfold phi
    simp [Core.zero, Core.stop, phiL]
  · rw [hz]
    exact Same.refl _

/-- The program's queue of number i, in block b: it tells the document's queue m, and so does its log. -/
def X (w : World) (T : Nat → Tag) (i b : Nat) (m : MQ) : Prop := ∃ (vL : Value) (s : Nat) (lg : Bs), XM w T i b m vL (.int .u32 s) lg ∧ LogIs m lg s ∧ Lsd m
theorem X.step {S : Tag → Prop} {w w' : World} {T T' : Nat → Tag} {i b : Nat} {m : MQ} (h : X w T i b m) (hs : Step S w T w' T') (hS : ∀ t, XT i t → ¬ S t) : X w' T' i b m := by
  obtain ⟨vL, s, lg, hx, h2⟩ := h
  exact ⟨vL, s, lg, hx.step hs hS, h2⟩

end Go.Proofs.YtockkceclkcgbaaGreatDoor

/- The program's queue keeps the document's contracts. -/
namespace Go.Proofs.YtockkceclkcgbaaGreatDoor
open Go.RowKit

theorem xopenL_any (c : Conf) (i : Nat) (w : World) (T : Nat → Tag) :
    Calls Tryz.prog 25 #[.agg c.cells, .string ⟨#[]⟩] w fun e w' => (goodC c = false ∧ e = .returned (.tuple #[.pointer none, .int .i64 1]) ∧ Below w.heap.size w w') ∨
      (goodC c = true ∧ ∃ b T', e = .returned (.tuple #[.pointer (some ⟨b, 0, none⟩), .int .i64 0]) ∧ Step (XT i) w T w' T' ∧ XM w' T' i b ⟨c, [], 0, [], 0, 0⟩ (.slice none 0 0) (.int .u32 (seedS c)) []) := by
  refine (open_any c ⟨#[]⟩ i w T (fun w' T' b => XM w' T' i b ⟨c, [], 0, [], 0, 0⟩ (.slice none 0 0) (.int .u32 (seedS c)) []) False (fun b mb w1 T1 hc hs hB hN => ?_)).mono ?_
  · refine (restore_empty c i b mb w1 T1 hB hN).mono ?_
    rintro e w2 ⟨rfl, hb⟩
    have g2 := step_below (fun _ => False) T1 hb
    refine ⟨T1, step_below _ T1 hb, .inl ⟨rfl, ⟨by simp, by simp, by simp [MQ.names], by simp [MQ.names], by simp, .slice none 0 0, mb, fun _ => 0, fun _ => newP 0, hB.step g2 (fun h => h), sub_nil _ _ _, hN.step g2 (fun h => h), fun k g hg => by simp at hg, brow_nil _ _ _⟩⟩⟩
  · rintro e w2 (h | ⟨hc, T2, s2, (⟨b, rfl, hx⟩ | ⟨hF, _⟩)⟩)
    · exact .inl h
    · exact .inr ⟨hc, b, T2, rfl, s2, hx⟩
    · exact hF.elim
theorem xopen_any (c : Conf) (i : Nat) (w : World) (T : Nat → Tag) :
    Calls Tryz.prog 25 #[.agg c.cells, .string ⟨#[]⟩] w fun e w' => (goodC c = false ∧ e = .returned (.tuple #[.pointer none, .int .i64 1]) ∧ Below w.heap.size w w') ∨
      (goodC c = true ∧ ∃ b T', e = .returned (.tuple #[.pointer (some ⟨b, 0, none⟩), .int .i64 0]) ∧ Step (XT i) w T w' T' ∧ X w' T' i b ⟨c, [], 0, [], 0, 0⟩) := by
  refine (xopenL_any c i w T).mono ?_
  rintro e w2 (h | ⟨hc, b, T2, rfl, s2, hx⟩)
  · exact .inl h
  · exact .inr ⟨hc, b, T2, rfl, s2, _, _, _, hx, log_new hc⟩

theorem xc (B : Int) (hB : B ≤ 3999999999999940000) : XC X B where
  step := fun hx hs hS => hx.step hs hS
  opn := fun c i w T => xopen_any c i w T
  log := fun i b m w T hx _ => by
    obtain ⟨vL, s, lg, hx, h2⟩ := hx
    refine (xlog_any i b m w T hx).mono ?_
    rintro e w1 ⟨rfl, rfl⟩
    exact ⟨_, rfl, T, Step.refl _ _ _, vL, s, lg, hx, h2⟩
  enq := fun i b m t w T hx hf => by
    obtain ⟨vL, s, lg, hx, h2, h3⟩ := hx
    refine (xenq_any i b m t w T hx hf.ok h2.lt (by have := h2.len; omega)).mono ?_
    rintro e w1 ⟨rfl, T1, vL1, s1, hx1⟩
    exact ⟨rfl, T1, s1, vL1, _, _, hx1, log_enq h2 hx.rels hf.ok hx.small, lsd_enq h3 hf.ok⟩
  grp := fun i b m nm fr w T hx hf => by
    obtain ⟨vL, s, lg, hx, h2, h3⟩ := hx
    refine (xgrp_any i b m nm fr w T hx hf.ok h2.lt (by have := h2.len; omega)).mono ?_
    rintro e w1 ⟨rfl, T1, vL1, s1, hx1⟩
    exact ⟨rfl, T1, s1, vL1, _, _, hx1, log_grp h2 hf.ok hx.small, lsd_grp h3 hf.ok⟩
  recv := fun i b m nm n t w T hx hf => by
    obtain ⟨vL, s, lg, hx, h2, h3⟩ := hx
    refine (xrecv_any i b m nm n t w T hx hf hB h2.lt (by have := h2.len; omega)).mono ?_
    rintro e w1 ⟨ao, cap, rfl, T1, vL1, s1, hx1, hR⟩
    obtain ⟨l1, l2⟩ := log_recv (nm := nm) (n := n) h2 hx.rels hf.ok hx.small hx.nodup hx.short h3
    exact ⟨ao, cap, rfl, T1, s1, ⟨vL1, _, _, hx1, l1, l2⟩, hR⟩
  ack := fun i b m nm off tr w T hx hf => by
    obtain ⟨vL, s, lg, hx, h2, h3⟩ := hx
    refine (xack_any i b m nm off tr w T hx hf.ok h2.lt (by have := h2.len; omega)).mono ?_
    rintro e w1 ⟨rfl, T1, vL1, s1, hx1⟩
    exact ⟨rfl, T1, s1, vL1, _, _, hx1, log_ack h2 hx.rels hf.ok hx.small hx.nodup hx.short h3, lsd_ack hf.ok h3⟩
  nack := fun i b m nm off tr d w T hx hf => by
    obtain ⟨vL, s, lg, hx, h2, h3⟩ := hx
    refine (xnack_any i b m nm off tr d w T hx hf.ok).mono ?_
    rintro e w1 ⟨rfl, T1, s1, hx1⟩
    exact ⟨rfl, T1, s1, vL, s, lg, hx1, log_nack h2 hx.rels hf.ok hx.small h3⟩
  ext := fun i b m nm off tr d w T hx hf => by
    obtain ⟨vL, s, lg, hx, h2, h3⟩ := hx
    refine (xextend_any i b m nm off tr d w T hx hf.ok).mono ?_
    rintro e w1 ⟨rfl, T1, s1, hx1⟩
    exact ⟨rfl, T1, s1, vL, s, lg, hx1, log_ext h2 hx.rels hf.ok hx.small h3⟩
  tick := fun i b m d w T hx hf => by
    obtain ⟨vL, s, lg, hx, h2, h3⟩ := hx
    refine (xtick_any i b m d w T hx hf.ok).mono ?_
    rintro e w1 ⟨rfl, T1, s1, hx1⟩
    exact ⟨rfl, T1, s1, vL, s, lg, hx1, log_tick h2 h3⟩
  done := fun i b m nm t w T hx hf => by
    obtain ⟨vL, s, lg, hx, h2⟩ := hx
    refine (xdone_any i b m nm t w T hx hf.ok).mono ?_
    rintro e w1 ⟨ao, cap, rfl, T1, s1, hx1, hR⟩
    exact ⟨ao, cap, rfl, T1, s1, ⟨vL, s, lg, hx1, h2⟩, hR⟩
  dead := fun i b m nm t w T hx hf => by
    obtain ⟨vL, s, lg, hx, h2⟩ := hx
    refine (xdead_any i b m nm t w T hx (hf.dead hx.small)).mono ?_
    rintro e w1 ⟨ao, cap, rfl, T1, s1, hx1, hR⟩
    exact ⟨ao, cap, rfl, T1, s1, ⟨vL, s, lg, hx1, h2⟩, hR⟩
  span := fun i b m w T hx hf => by
    obtain ⟨vL, s, lg, hx, h2⟩ := hx
    refine (xspan_any i b m w T hx hf.ok).mono ?_
    rintro e w1 ⟨rfl, T1, s1, hx1⟩
    exact ⟨rfl, T1, s1, vL, s, lg, hx1, h2⟩
  ret := fun i b m w T hx hf => by
    obtain ⟨vL, s, lg, hx, h2, h3⟩ := hx
    refine (xretain_any i b m w T hx hf.ok h2.lt (by have := h2.len; omega)).mono ?_
    rintro e w1 ⟨rfl, T1, vL1, s1, hx1⟩
    exact ⟨rfl, T1, s1, vL1, _, _, hx1, log_ret h2 hx.rels hf.ok hx.small, lsd_ret h3⟩

end Go.Proofs.YtockkceclkcgbaaGreatDoor

/- What the two errors of package quay that stand in its variables are, when a call begins; a world in which they stand. -/
namespace Go.Proofs.YtockkceclkcgbaaGreatDoor
open Go.RowKit

def laidL : List (String × DataW Unit) := [("quay/quay.errCut", Rows.laid_quay_quay_errCut), ("quay/quay.errWrong", Rows.laid_quay_quay_errWrong)]
def cutB : ByteArray := ⟨#[116, 104, 101, 32, 116, 101, 120, 116, 32, 101, 110, 100, 115, 32, 119, 105, 116, 104, 105, 110, 32, 97, 32, 114, 101, 99, 111, 114, 100]⟩
def wrongB : ByteArray := ⟨#[116, 104, 101, 32, 116, 101, 120, 116, 32, 105, 115, 32, 110, 111, 32, 108, 111, 103]⟩
noncomputable def lowB : Nat := (World.holding Tryz.prog default ⟨#[], #[], []⟩).heap.size
noncomputable def laidWorld (os : Os) : World :=
  let w0 := World.holding Tryz.prog os ⟨#[.cells #[.string cutB] 279, .cells #[.string wrongB] 279], #[], []⟩
  { w0 with heap := (w0.heap.modify 0 fun
      | .cells _ t frozen => .cells #[.iface 257 (.pointer (some ⟨lowB, 0, none⟩))] t frozen
      | o => o).modify 1 fun
      | .cells _ t frozen => .cells #[.iface 257 (.pointer (some ⟨lowB + 1, 0, none⟩))] t frozen
      | o => o }
theorem laid_met (os : Os) (args : Array Value) : laidMet Tryz.prog laidL ((laidWorld os).forCall (fun _ _ => 0) ⟨#[], args, []⟩).memory :=
  laidMet_of_run (ps := [.cell 0 0, .cell lowB 0, .cell 1 0, .cell (lowB + 1) 0]) 8 (by kernel_rfl) (by kernel_rfl) (by kernel_rfl)
theorem laid_metH (os : Os) (args : Array Value) : laidMetH Tryz.prog laidL ((laidWorld os).forCall (fun _ _ => 0) ⟨#[], args, []⟩).memory :=
  laidMetH_of_parts (laid_met os args) (by kernel_rfl)

end Go.Proofs.YtockkceclkcgbaaGreatDoor

/- The program's Receive, its parts: what a visit of a message makes of a group; the contract of next over both channels. -/
import Derived.Test.YtgcbooflhdjnhaaT30
namespace Go.Proofs.Ytgcbooflhdjnhaa
open Go.RowKit Go.Maps

/-- a group while it receives -/
def gS (g : MG) (st : RS) : MG := { g with items := st.items, dead := st.dead }

theorem rel_bury {M M' : MQ} {g : MG} {p : PG} {st : RS} {v : Nat} {x : It} {s : ByteArray} {ch : Int} {out : List Dl} (hr : RelG M (gS g st) p) (hi : InvG M (gS g st)) (hx : st.items[v]? = some x) (hd : ¬ 0 < x.done) (hv : v < 400) (hs : M.bodies[v]? = some s)
    (ht : M'.time = M.time) (hb : M'.bodies = M.bodies) (hc : M'.c = M.c) :
    RelG M' (gS g ⟨st.items.set v { x with done := 2 }, st.dead ++ [v], ch, out⟩) (finishP (buryP p ⟨v, p.tr v, s⟩) v) ∧ InvG M' (gS g ⟨st.items.set v { x with done := 2 }, st.dead ++ [v], ch, out⟩) := by
  have hlt := (List.getElem?_eq_some_iff.1 hx).1
  have h1 : RelG M' { gS g st with items := (gS g st).items.set v { x with done := 2 } } (finishP p v) := rel_finish (d := 2) hr hx hv (by decide) ht hb
  have h2 : InvG M' { gS g st with items := (gS g st).items.set v { x with done := 2 } } := inv_set hi hx (by simp) (hi.tries x (List.mem_of_getElem? hx)) (hi.excl x (List.mem_of_getElem? hx)) (fun _ => by simp) ht hc
  have htr : p.tr v = x.tries := by
    have hx2 : (gS g st).items[v]? = some x := hx
    rw [hr.tr, itemAt_nat, hx2]
    simp [triesOf, hd]
  refine ⟨⟨h1.start, h1.set, h1.done, ?_, h1.tr, h1.wt⟩, h2.done, h2.tries, h2.excl, fun k hk => ?_⟩
  · have e := h1.dead
    show p.dead ++ [⟨v, p.tr v, s⟩] = (st.dead ++ [v]).map (deadOf M' (gS g ⟨st.items.set v { x with done := 2 }, st.dead ++ [v], ch, out⟩))
    rw [List.map_append]
    congr 1
    have hb2 : M'.bodies[v]? = some s := by rw [hb]; exact hs
    simp [deadOf, gS, List.getD, hlt, hb2, htr]
  · rcases List.mem_append.1 hk with h | h
    · exact h2.dead k h
    · simp at h
      subst h
      show doneB (st.items.set k { x with done := 2 }) k = true
      rw [doneB_set hlt]
      simp
theorem rel_give {M M' : MQ} {g : MG} {p : PG} {st : RS} {v : Nat} {x : It} {u ch : Int} {out : List Dl} (hr : RelG M (gS g st) p) (hi : InvG M (gS g st)) (hx : st.items[v]? = some x) (hd : ¬ 0 < x.done) (hu : M.time < u) (ha : x.after ≤ M.time) (hlt : x.tries < M.c.d) (hd10 : M.c.d ≤ 10)
    (ht : M'.time = M.time) (hb : M'.bodies = M.bodies) (hc : M'.c = M.c) :
    RelG M' (gS g ⟨st.items.set v { x with tries := wrap64 (x.tries + 1), till := u }, st.dead, ch, out⟩) (leaseP (countP p v) v u) ∧ InvG M' (gS g ⟨st.items.set v { x with tries := wrap64 (x.tries + 1), till := u }, st.dead, ch, out⟩) := by
  have h0 := hi.tries x (List.mem_of_getElem? hx)
  have hw : wrap64 (x.tries + 1) = x.tries + 1 := IntWalk.wrap64_in _ ⟨by omega, by omega⟩
  refine ⟨rel_deliver hr hi hx hd hu ht hb, ?_⟩
  exact inv_set hi hx (hi.done x (List.mem_of_getElem? hx)) (by simp only [hw]; omega) (fun _ => ha) (fun h => h) ht hc

theorem next_some (i ca cf cap v : Nat) (rest A F : List Nat) (w : World) (T : Nat → Tag) (hA : Ch w T (.q i 0 1) ca cap A) (hF : Ch w T (.q i 0 2) cf cap F) (h : A ++ F = v :: rest) :
    Calls Try.prog 98 #[.chan (some ca), .chan (some cf)] w fun e w' => e = .returned (.tuple #[.int .i64 v, .bool true]) ∧ ∃ A' F', A' ++ F' = rest ∧ Ch w' T (.q i 0 1) ca cap A' ∧ Ch w' T (.q i 0 2) cf cap F' ∧ Step (fun t => t = .q i 0 1 ∨ t = .q i 0 2) w T w' T := by
  cases A with
  | nil =>
    simp at h
    subst h
    exact (next_second ca cf cap cap v rest (.q i 0 2) (.q i 0 1) w T hA hF).mono fun e w' ⟨h1, h2, h3⟩ => ⟨h1, [], rest, rfl, hA.step h3 (by simp), h2, h3.mono (fun _ h => .inr h)⟩
  | cons a A' =>
    simp at h
    obtain ⟨rfl, h⟩ := h
    exact (next_first ca cf cap a A' (.q i 0 1) w T hA).mono fun e w' ⟨h1, h2, h3⟩ => ⟨h1, A', F, h, h2, hF.step h3 (by simp), h3.mono (fun _ h => .inl h)⟩

/-- how much lies in a channel -/
def chLeft (w : World) (c : Nat) : Nat := match w.heap[c]? with
  | some (.chan _ buf _ _ _ _) => buf.size
  | _ => 0
theorem Ch.left {w : World} {T : Nat → Tag} {t : Tag} {c cap : Nat} {l : List Nat} (h : Ch w T t c cap l) : chLeft w c = l.length := by
  obtain ⟨_, s, r, h⟩ := h
  simp [chLeft, h]

/-- what a Receive may write: its group, the two channels, the list -/
def SR (i k : Nat) (t : Tag) : Prop := SG i k t ∨ t = .q i 0 1 ∨ t = .q i 0 2 ∨ t = .q i 0 3
theorem nSR0 {i k : Nat} : ¬ SR i k (.q i 0 0) := by
  rintro (h | h | h | h)
  · exact nSG (by decide) h
  · simp at h
  · simp at h
  · simp at h
theorem nSR1 {i k : Nat} : ¬ SR i k (.q i 1 0) := by
  rintro (h | h | h | h)
  · exact nSG (by decide) h
  · simp at h
  · simp at h
  · simp at h
theorem nSR2 {i k : Nat} : ¬ SR i k (.q i 2 0) := by
  rintro (h | h | h | h)
  · exact nSG (by decide) h
  · simp at h
  · simp at h
  · simp at h
theorem nSRk {i k j r : Nat} (hr : 3 ≤ r) (hj : j ≠ k) : ¬ SR i k (.q i r j) := by
  rintro (h | h | h | h)
  · exact nSGk hj h
  · have := congrArg Tag.r h; simp at this; omega
  · have := congrArg Tag.r h; simp at this; omega
  · have := congrArg Tag.r h; simp at this; omega
theorem SR_XT {i k : Nat} {t : Tag} (h : SR i k t) : XT i t := by
  rcases h with ⟨r, _, rfl⟩ | rfl | rfl | rfl <;> exact ⟨rfl, rfl⟩

/-- one block bears another tag: what has no such tag stays -/
theorem retag_keep {T : Nat → Tag} {g b : Nat} {t u : Tag} (hb : T b = t) (hg : T g ≠ t) : retag T g u b = t := by
  rw [retag_other T g u (fun e => hg (by rw [← e]; exact hb))]
  exact hb
theorem X.retag {w : World} {T : Nat → Tag} {i b : Nat} {m : MQ} {g : Nat} {t : Tag} (hx : X w T i b m) (hg : T g = .q i 0 3) : X w (retag T g t) i b m := by
  obtain ⟨h1, h2, h3, h4, h5, vB, mb, f, ps, hB, hS, hN, hG⟩ := hx
  refine ⟨h1, h2, h3, h4, h5, vB, mb, f, ps, ⟨retag_keep hB.1 (by rw [hg]; simp), hB.2⟩, ?_, ⟨retag_keep hN.1 (by rw [hg]; simp), hN.2⟩, fun k gr hk => ⟨?_, (hG k gr hk).2⟩⟩
  · obtain ⟨ao, cap, q1, q2, q3⟩ := hS
    refine ⟨ao, cap, q1, q2, q3.imp id ?_⟩
    rintro ⟨g', off, cur, e, hT, rest⟩
    exact ⟨g', off, cur, e, retag_keep hT (by rw [hg]; simp), rest⟩
  · obtain ⟨vD, vE, tb, wb, a1, a2, a3, a4, a5⟩ := (hG k gr hk).1
    exact ⟨vD, vE, tb, wb, ⟨retag_keep a1.1 (by rw [hg]; simp), a1.2⟩, ⟨a2.1, fun g' h' => retag_keep (a2.2 g' h') (by rw [hg]; simp)⟩, ⟨a3.1, fun g' h' => retag_keep (a3.2 g' h') (by rw [hg]; simp)⟩, ⟨retag_keep a4.1 (by rw [hg]; simp), a4.2⟩, ⟨retag_keep a5.1 (by rw [hg]; simp), a5.2⟩⟩

theorem setG_others {m : MQ} {k : Nat} {g : MG} {st : RS} (hg : m.groups[k]? = some g) : ∀ j g1, (m.setG k st).groups[j]? = some g1 → (j = k ∧ g1 = gS g st) ∨ (j ≠ k ∧ m.groups[j]? = some g1) := by
  intro j g1 hj
  rw [setG_group] at hj
  obtain ⟨g0, h0, h1⟩ := Option.map_eq_some_iff.1 hj
  by_cases hk : k = j
  · subst hk
    rw [hg] at h0
    cases h0
    simp only [if_true] at h1
    exact .inl ⟨rfl, h1.symm⟩
  · simp only [hk, if_false] at h1
    subst h1
    exact .inr ⟨fun e => hk e.symm, h0⟩
theorem setG_names {m : MQ} {k : Nat} {st : RS} : (m.setG k st).names = m.names := by
  apply List.ext_getElem?
  intro j
  simp only [MQ.names, List.getElem?_map, setG_group, Option.map_map]
  cases m.groups[j]? with
  | none => rfl
  | some g => by_cases h : k = j <;> simp [h]

/-- one group went on, in a Receive -/
theorem X.recv {w w' : World} {T T' : Nat → Tag} {i b : Nat} {m : MQ} {k : Nat} {g : MG} {st : RS} {p' : PG} (hx : X w T i b m) (hg : m.groups[k]? = some g) (hs : Step (SR i k) w T w' T') {vB : Value} {mb : Nat} {f : Nat → Nat} {ps : Nat → PG}
    (hB : Blk w T (.q i 0 0) b #[.int .i64 m.c.l, .int .i64 m.c.d, .int .i64 m.c.s, .int .i64 m.c.k, .int .i64 m.time, .int .i64 m.floor, vB, .map (some mb)] 105)
    (hS : Sub w T (.q i 1 0) vB ((m.bodies.drop m.floor.toNat).map .string)) (hN : NM w T (.q i 2 0) mb m.names f) (hG : ∀ k g, m.groups[k]? = some g → GM w T i k (f k) (ps k) ∧ RelG m g (ps k))
    (hG' : GM w' T' i k (f k) p') (hr' : RelG (m.setG k st) (gS g st) p') (hi' : InvG (m.setG k st) (gS g st)) : X w' T' i b (m.setG k st) := by
  obtain ⟨h1, h2, h3, h4, h5, _⟩ := hx
  have hgl : (m.setG k st).groups.length = m.groups.length := by simp [MQ.setG]
  refine ⟨h1, by omega, by rw [setG_names]; exact h3, by rw [setG_names]; exact h4, fun g1 hg1 => ?_, vB, mb, f, updP ps k p', hB.step hs nSR0, hS.step hs nSR1, by rw [setG_names]; exact hN.step hs nSR2, fun j g1 hj => ?_⟩
  · obtain ⟨j, hj⟩ := List.getElem?_of_mem hg1
    rcases setG_others hg j g1 hj with ⟨_, rfl⟩ | ⟨_, hj2⟩
    · exact hi'
    · exact (h5 g1 (List.mem_of_getElem? hj2)).same rfl rfl
  · rcases setG_others hg j g1 hj with ⟨rfl, rfl⟩ | ⟨hjk, hj2⟩
    · simp only [updP, if_true]
      exact ⟨hG', hr'⟩
    · simp only [updP, hjk, if_false]
      exact ⟨(hG j g1 hj2).1.step hs (fun r hr => nSRk hr hjk), (hG j g1 hj2).2.same rfl rfl⟩

end Go.Proofs.Ytgcbooflhdjnhaa

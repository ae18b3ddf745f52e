/- The program's Receive, its parts: what a visit of a message makes of a group; the contract of next over both channels. -/
import Derived.Test.YtockkceclkcgbaaGreatDoorB32
namespace Go.Proofs.YtockkceclkcgbaaGreatDoor
open Go.RowKit Go.Maps
variable {vL vS : Value} {lg : Bs}

/-- a group while it receives -/
def gS (g : MG) (st : RS) : MG := { g with items := st.items, dead := st.dead }

theorem rel_bury {M M' : MQ} {g : MG} {p : PG} {st : RS} {v : Nat} {x : It} {s : ByteArray} {ch : Int} {out : List Dl} (hr : RelG M (gS g st) p) (hi : InvG M (gS g st)) (hx : st.items[v]? = some x) (hd : ¬ 0 < x.done) (hv : v < 400) (hs : M.bodies[v]? = some s)
    (ht : M'.time = M.time) (hb : M'.bodies = M.bodies) (hc : M'.c = M.c) :
    RelG M' (gS g ⟨st.items.set v { x with done := 2 }, st.dead ++ [v], ch, out⟩) (finishP (buryP p ⟨v, p.tr v, s⟩) v) ∧ InvG M' (gS g ⟨st.items.set v { x with done := 2 }, st.dead ++ [v], ch, out⟩) := by
  have hlt := (List.getElem?_eq_some_iff.1 hx).1
  have h1 : RelG M' { gS g st with items := (gS g st).items.set v { x with done := 2 } } (finishP p v) := rel_finish (d := 2) hr hx hv (by decide) ht hb
  have h2 : InvG M' { gS g st with items := (gS g st).items.set v { x with done := 2 } } := inv_set hi hx (by simp) (hi.tries x (List.mem_of_getElem? hx)) (hi.excl x (List.mem_of_getElem? hx)) (fun _ => by simp) ht hc
  have htr : p.tr v = x.tries := by
    have hx2 : (gS g st).items[v]? = some x := hx
    rw [hr.tr, itemAt_nat, hx2]
    simp [triesOf, hd]
  refine ⟨⟨h1.start, h1.set, h1.done, ?_, h1.tr, h1.wt⟩, h2.done, h2.tries, h2.excl, fun k hk => ?_⟩
  · have e := h1.dead
    show p.dead ++ [⟨v, p.tr v, s⟩] = (st.dead ++ [v]).map (deadOf M' (gS g ⟨st.items.set v { x with done := 2 }, st.dead ++ [v], ch, out⟩))
    rw [List.map_append]
    congr 1
    have hb2 : M'.bodies[v]? = some s := by rw [hb]; exact hs
    simp [deadOf, gS, List.getD, hlt, hb2, htr]
  · rcases List.mem_append.1 hk with h | h
    · exact h2.dead k h
    · simp at h
      subst h
      show doneB (st.items.set k { x with done := 2 }) k = true
      rw [doneB_set hlt]
      simp
theorem rel_give {M M' : MQ} {g : MG} {p : PG} {st : RS} {v : Nat} {x : It} {u ch : Int} {out : List Dl} (hr : RelG M (gS g st) p) (hi : InvG M (gS g st)) (hx : st.items[v]? = some x) (hd : ¬ 0 < x.done) (hu : M.time < u) (ha : x.after ≤ M.time) (hlt : x.tries < M.c.d) (hd10 : M.c.d ≤ 10)
    (ht : M'.time = M.time) (hb : M'.bodies = M.bodies) (hc : M'.c = M.c) :
    RelG M' (gS g ⟨st.items.set v { x with tries := wrap64 (x.tries + 1), till := u }, st.dead, ch, out⟩) (leaseP (countP p v) v u) ∧ InvG M' (gS g ⟨st.items.set v { x with tries := wrap64 (x.tries + 1), till := u }, st.dead, ch, out⟩) := by
  have h0 := hi.tries x (List.mem_of_getElem? hx)
  have hw : wrap64 (x.tries + 1) = x.tries + 1 := IntWalk.wrap64_in _ ⟨by omega, by omega⟩
  refine ⟨rel_deliver hr hi hx hd hu ht hb, ?_⟩
  exact inv_set hi hx (hi.done x (List.mem_of_getElem? hx)) (by simp only [hw]; omega) (fun _ => ha) (fun h => h) ht hc

theorem next_some (i ca cf cap v : Nat) (rest A F : List Nat) (w : World) (T : Nat → Tag) (hA : Ch w T (.q i 0 1) ca cap A) (hF : Ch w T (.q i 0 2) cf cap F) (h : A ++ F = v :: rest) :
    Calls Tryz.prog 70 #[.chan (some ca), .chan (some cf)] w fun e w' => e = .returned (.tuple #[.int .i64 v, .bool true]) ∧ ∃ A' F', A' ++ F' = rest ∧ Ch w' T (.q i 0 1) ca cap A' ∧ Ch w' T (.q i 0 2) cf cap F' ∧ Step (fun t => t = .q i 0 1 ∨ t = .q i 0 2) w T w' T := by
  cases A with
  | nil =>
    simp at h
    subst h
    exact (next_second ca cf cap cap v rest (.q i 0 2) (.q i 0 1) w T hA hF).mono fun e w' ⟨h1, h2, h3⟩ => ⟨h1, [], rest, rfl, hA.step h3 (by simp), h2, h3.mono (fun _ h => .inr h)⟩
  | cons a A' =>
    simp at h
    obtain ⟨rfl, h⟩ := h
    exact (next_first ca cf cap a A' (.q i 0 1) w T hA).mono fun e w' ⟨h1, h2, h3⟩ => ⟨h1, A', F, h, h2, hF.step h3 (by simp), h3.mono (fun _ h => .inl h)⟩

/-- how much lies in a channel -/
def chLeft (w : World) (c : Nat) : Nat := match w.heap[c]? with
  | some (.chan _ buf _ _ _ _) => buf.size
  | _ => 0
theorem Ch.left {w : World} {T : Nat → Tag} {t : Tag} {c cap : Nat} {l : List Nat} (h : Ch w T t c cap l) : chLeft w c = l.length := by
  obtain ⟨_, s, r, h⟩ := h
  simp [chLeft, h]

/-- what a Receive may write: its group, the two channels, the list -/
def SR (i k : Nat) (t : Tag) : Prop := SG i k t ∨ t = .q i 0 1 ∨ t = .q i 0 2 ∨ t = .q i 0 3 ∨ t = .q i 0 4
theorem nSR0 {i k : Nat} : ¬ SR i k (.q i 0 0) := by
  rintro (h | h | h | h | h)
  · exact nSG (by decide) h
  · simp at h
  · simp at h
  · simp at h
  · simp at h
theorem nSR1 {i k : Nat} : ¬ SR i k (.q i 1 0) := by
  rintro (h | h | h | h | h)
  · exact nSG (by decide) h
  · simp at h
  · simp at h
  · simp at h
  · simp at h
theorem nSR2 {i k : Nat} : ¬ SR i k (.q i 2 0) := by
  rintro (h | h | h | h | h)
  · exact nSG (by decide) h
  · simp at h
  · simp at h
  · simp at h
  · simp at h
theorem nSRl {i k : Nat} : ¬ SR i k (.q i 1 1) := by
  rintro (h | h | h | h | h)
  · exact nSG (by decide) h
  · simp at h
  · simp at h
  · simp at h
  · simp at h
theorem nSRk {i k j r : Nat} (hr : 3 ≤ r) (hj : j ≠ k) : ¬ SR i k (.q i r j) := by
  rintro (h | h | h | h | h)
  · exact nSGk hj h
  · have := congrArg Tag.r h; simp at this; omega
  · have := congrArg Tag.r h; simp at this; omega
  · have := congrArg Tag.r h; simp at this; omega
  · have := congrArg Tag.r h; simp at this; omega
theorem SR_XT {i k : Nat} {t : Tag} (h : SR i k t) : XT i t := by
  rcases h with ⟨r, _, rfl⟩ | rfl | rfl | rfl | rfl <;> exact ⟨rfl, rfl⟩

/-- one block bears another tag: what has no such tag stays -/
theorem retag_keep {T : Nat → Tag} {g b : Nat} {t u : Tag} (hb : T b = t) (hg : T g ≠ t) : retag T g u b = t := by
  rw [retag_other T g u (fun e => hg (by rw [← e]; exact hb))]
  exact hb
theorem XM.retag {w : World} {T : Nat → Tag} {i b : Nat} {m : MQ} {g : Nat} {t : Tag} (hx : XM w T i b m vL vS lg) (hg : T g = .q i 0 3) : XM w (retag T g t) i b m vL vS lg := by
  obtain ⟨h1, h2, h3, h4, h5, vB, mb, f, ps, hB, hS, hN, hG, hL⟩ := hx
  refine ⟨h1, h2, h3, h4, h5, vB, mb, f, ps, ⟨retag_keep hB.1 (by rw [hg]; simp), hB.2⟩, ?_, ⟨retag_keep hN.1 (by rw [hg]; simp), hN.2⟩, fun k gr hk => ⟨?_, (hG k gr hk).2⟩, ⟨hL.1, fun g' h' => retag_keep (hL.2 g' h') (by rw [hg]; simp)⟩⟩
  · obtain ⟨ao, cap, q1, q2, q3⟩ := hS
    refine ⟨ao, cap, q1, q2, q3.imp id ?_⟩
    rintro ⟨g', off, cur, e, hT, rest⟩
    exact ⟨g', off, cur, e, retag_keep hT (by rw [hg]; simp), rest⟩
  · obtain ⟨vD, vE, tb, wb, a1, a2, a3, a4, a5⟩ := (hG k gr hk).1
    exact ⟨vD, vE, tb, wb, ⟨retag_keep a1.1 (by rw [hg]; simp), a1.2⟩, ⟨a2.1, fun g' h' => retag_keep (a2.2 g' h') (by rw [hg]; simp)⟩, ⟨a3.1, fun g' h' => retag_keep (a3.2 g' h') (by rw [hg]; simp)⟩, ⟨retag_keep a4.1 (by rw [hg]; simp), a4.2⟩, ⟨retag_keep a5.1 (by rw [hg]; simp), a5.2⟩⟩

theorem setG_others {m : MQ} {k : Nat} {g : MG} {st : RS} (hg : m.groups[k]? = some g) : ∀ j g1, (m.setG k st).groups[j]? = some g1 → (j = k ∧ g1 = gS g st) ∨ (j ≠ k ∧ m.groups[j]? = some g1) := by
  intro j g1 hj
  rw [setG_group] at hj
  obtain ⟨g0, h0, h1⟩ := Option.map_eq_some_iff.1 hj
  by_cases hk : k = j
  · subst hk
    rw [hg] at h0
    cases h0
    simp only [if_true] at h1
    exact .inl ⟨rfl, h1.symm⟩
  · simp only [hk, if_false] at h1
    subst h1
    exact .inr ⟨fun e => hk e.symm, h0⟩
theorem setG_names {m : MQ} {k : Nat} {st : RS} : (m.setG k st).names = m.names := by
  apply List.ext_getElem?
  intro j
  simp only [MQ.names, List.getElem?_map, setG_group, Option.map_map]
  cases m.groups[j]? with
  | none => rfl
  | some g => by_cases h : k = j <;> simp [h]

/-- one group went on, in a Receive -/
theorem XM.recv {w w' : World} {T T' : Nat → Tag} {i b : Nat} {m : MQ} {k : Nat} {g : MG} {st : RS} {p' : PG} (hx : XM w T i b m vL vS lg) (hg : m.groups[k]? = some g) (hs : Step (SR i k) w T w' T') {vB : Value} {mb : Nat} {f : Nat → Nat} {ps : Nat → PG}
    (hB : Blk w T (.q i 0 0) b #[.int .i64 m.c.l, .int .i64 m.c.d, .int .i64 m.c.s, .int .i64 m.c.k, .int .i64 m.time, .int .i64 m.floor, vB, .map (some mb), vL, vS] 105)
    (hS : Sub w T (.q i 1 0) vB ((m.bodies.drop m.floor.toNat).map .string)) (hN : NM w T (.q i 2 0) mb m.names f) (hG : ∀ k g, m.groups[k]? = some g → GM w T i k (f k) (ps k) ∧ RelG m g (ps k))
    (hG' : GM w' T' i k (f k) p') (hr' : RelG (m.setG k st) (gS g st) p') (hi' : InvG (m.setG k st) (gS g st)) (hL : BRow w T (.q i 1 1) vL lg) : XM w' T' i b (m.setG k st) vL vS lg := by
  obtain ⟨h1, h2, h3, h4, h5, _⟩ := hx
  have hgl : (m.setG k st).groups.length = m.groups.length := by simp [MQ.setG]
  refine ⟨h1, by omega, by rw [setG_names]; exact h3, by rw [setG_names]; exact h4, fun g1 hg1 => ?_, vB, mb, f, updP ps k p', hB.step hs nSR0, hS.step hs nSR1, by rw [setG_names]; exact hN.step hs nSR2, fun j g1 hj => ?_, hL.step hs nSRl⟩
  · obtain ⟨j, hj⟩ := List.getElem?_of_mem hg1
    rcases setG_others hg j g1 hj with ⟨_, rfl⟩ | ⟨_, hj2⟩
    · exact hi'
    · exact (h5 g1 (List.mem_of_getElem? hj2)).same rfl rfl
  · rcases setG_others hg j g1 hj with ⟨rfl, rfl⟩ | ⟨hjk, hj2⟩
    · simp only [updP, if_true]
      exact ⟨hG', hr'⟩
    · simp only [updP, hjk, if_false]
      exact ⟨(hG j g1 hj2).1.step hs (fun r hr => nSRk hr hjk), (hG j g1 hj2).2.same rfl rfl⟩

end Go.Proofs.YtockkceclkcgbaaGreatDoor

/- The contract of the program's serve: a message is delivered to a group, or laid aside. -/
namespace Go.Proofs.YtockkceclkcgbaaGreatDoor
open Go.RowKit Go.Maps

/-- a group behind serve -/
def serveP (d until_ : Int) (s : ByteArray) (p : PG) (n : Int) : PG := bif decide (d ≤ p.tr n) then finishP (buryP p ⟨n, p.tr n, s⟩) n else leaseP (countP p n) n until_
def servedV (d : Int) (s : ByteArray) (p : PG) (n : Int) : Value := bif decide (d ≤ p.tr n) then .tuple #[.agg #[.int .i64 0, .int .i64 0, .string ⟨#[]⟩], .bool false] else .tuple #[.agg #[.int .i64 n, .int .i64 (wrap64 (p.tr n + 1)), .string s], .bool true]

set_option maxRecDepth 100000 in
set_option maxHeartbeats 1000000 in
theorem serve_any (i k b gb : Nat) (m : MQ) (p : PG) (n : Nat) (s : ByteArray) (vB vM vL vS : Value) (w : World) (T : Nat → Tag)
    (hB : Blk w T (.q i 0 0) b #[.int .i64 m.c.l, .int .i64 m.c.d, .int .i64 m.c.s, .int .i64 m.c.k, .int .i64 m.time, .int .i64 m.floor, vB, vM, vL, vS] 105) (hS : Sub w T (.q i 1 0) vB ((m.bodies.drop m.floor.toNat).map .string))
    (hG : GM w T i k gb p) (hsm : m.bodies.length ≤ 400) (h0 : 0 ≤ m.floor) (hn0 : m.floor ≤ n) (hs : m.bodies[n]? = some s) (ht0 : 0 ≤ m.time) (ht1 : m.time ≤ 4000000000000000000) (hl0 : 1 ≤ m.c.l) (hl1 : m.c.l ≤ 60000) (hdl : p.dead.length ≤ 4000) (hset : setB p.done = true) :
    Calls Tryz.prog 71 #[.pointer (some ⟨b, 0, none⟩), .pointer (some ⟨gb, 0, none⟩), .int .i64 n] w fun e w' => e = .returned (servedV m.c.d s p n) ∧ ∃ T', Step (SG i k) w T w' T' ∧ GM w' T' i k gb (serveP m.c.d (m.time + m.c.l) s p n) := by
  have hnl := (List.getElem?_eq_some_iff.1 hs).1
  have hi64 : i64 (n : Int) := ⟨by omega, by omega⟩
  have a1 := step_new w T (.cells #[.int .i64 0, .int .i64 0, .string ⟨#[]⟩] 82) .free (fun _ => False)
  have hO := blk_new w T #[.int .i64 0, .int .i64 0, .string ⟨#[]⟩] 82 .free
  have hB1 := hB.step a1 (fun h => h)
  have hS1 := hS.step a1 (fun h => h)
  have hG1 := hG.step a1 (fun _ _ h => h)
  clear hB hS hG
  go_enter Tryz.func71, Tryz.ntmps71
  generalize hTT : retag T w.heap.size .free = T1 at *
  have hdr := step_below (fun _ => False) T1 (Below.refl (w.alloc (.cells #[.int .i64 0, .int .i64 0, .string ⟨#[]⟩] 82)).heap.size (w.alloc (.cells #[.int .i64 0, .int .i64 0, .string ⟨#[]⟩] 82))).drew
  have hG2 := hG1
  obtain ⟨vD, vE, tb, wb, hBg, hD, hEd, hT, hW⟩ := hG1
  have lg := hBg.lt
  have lb := hB1.lt
  have d3 := hBg.cell (j := 3) rfl
  have c1 := hB1.cell (j := 1) rfl
  simp only [List.getElem_toArray, List.getElem_cons_succ, List.getElem_cons_zero] at d3 c1
  have lkT := (hT.step hdr (fun h => h)).look hi64
  clear hBg hD hEd hT hW
  go_wp2_with fail
  go_region_held3 (fun w' => w'.cell? ⟨gb, 3, none⟩ = some (.map (some tb)) ∧ w'.cell? ⟨b, 1, none⟩ = some (.int .i64 m.c.d) ∧ (Instr.lookup 131 (.map (some tb)) (.int .i64 (n : Int)) false).run Tryz.prog w' = .ok (.int .i64 (p.tr n)) w') (go_keep) (fail)
  have hB3 := hB1.step hdr (fun h => h)
  have hS3 := hS1.step hdr (fun h => h)
  have hG3 := hG2.step hdr (fun _ _ h => h)
  have hO3 := hO.step hdr (fun h => h)
  have s3 : Step (SG i k) w T _ T1 := (a1.mono (fun _ h => h.elim)).trans (hdr.mono (fun _ h => h.elim))
  clear hB1 hS1 hG2 hO lkT d3 c1 lg lb hdr a1
  generalize (w.alloc (.cells #[.int .i64 0, .int .i64 0, .string ⟨#[]⟩] 82)).drew = w3 at *
  generalize hzz : w.heap.size = wz at *
  clear hTT
  by_cases hE : m.c.d ≤ p.tr n
  · have e1 : Hid (servedV m.c.d s p n = .tuple #[.agg #[.int .i64 0, .int .i64 0, .string ⟨#[]⟩], .bool false]) := hide (by simp [servedV, hE])
    have e2 : serveP m.c.d (m.time + m.c.l) s p n = finishP (buryP p ⟨n, p.tr n, s⟩) n := by simp [serveP, hE]
    go_wp2_with fail
    refine (bury_any i k b gb m p n s vB vM vL vS w3 T1 hB3 hS3 hG3 hsm h0 hn0 hs hdl hset).mono ?_
    rintro e w4 ⟨rfl, T4, s4, hG4⟩
    have hO4 := hO3.step s4 nSGf
    have lo := hO4.lt
    have o0 := hO4.cell (j := 0) rfl
    have o1 := hO4.cell (j := 1) rfl
    have o2 := hO4.cell (j := 2) rfl
    have z0 := hO4.frozen 0
    have z1 := hO4.frozen 1
    have z2 := hO4.frozen 2
    simp only [List.getElem_toArray, List.getElem_cons_succ, List.getElem_cons_zero] at o0 o1 o2
    have s5 : Step (fun t => t = .free) w4 T4 (((w4.setCell ⟨wz, 0, none⟩ (.int .i64 0)).setCell ⟨wz, 1, none⟩ (.int .i64 0)).setCell ⟨wz, 2, none⟩ (.string ⟨#[]⟩)) T4 :=
      ((step_setCell w4 T4 wz 0 _ (S := fun t => t = .free) hO4.1).trans (step_setCell _ T4 wz 1 _ (S := fun t => t = .free) hO4.1)).trans (step_setCell _ T4 wz 2 _ (S := fun t => t = .free) hO4.1)
    have hO5 := ((hO4.set 0 (.int .i64 0)).set 1 (.int .i64 0)).set 2 (.string ⟨#[]⟩)
    have r0 := hO5.cell (j := 0) (v := .int .i64 0) (by simp)
    have r1 := hO5.cell (j := 1) (v := .int .i64 0) (by simp)
    have r2 := hO5.cell (j := 2) (v := .string ⟨#[]⟩) (by simp)
    go_wp2
    refine bodyPost_ret (v := .tuple #[.agg #[.int .i64 0, .int .i64 0, .string ⟨#[]⟩], .bool false]) ?_ rfl ⟨by rw [e1.out], T4, ?_, by rw [e2]; exact hG4.step s5 (by simp)⟩
    · simp [results, Tryz.results71, go_sem, r0, r1, r2]
    · exact (((s3.trans s4).setNew (by omega) _ _).setNew (by omega) _ _).setNew (by omega) _ _
  · have e1 : Hid (servedV m.c.d s p n = .tuple #[.agg #[.int .i64 n, .int .i64 (wrap64 (p.tr n + 1)), .string s], .bool true]) := hide (by simp [servedV, hE])
    have e2 : serveP m.c.d (m.time + m.c.l) s p n = leaseP (countP p n) n (m.time + m.c.l) := by simp [serveP, hE]
    go_wp2_with fail
    refine (deliver_any i k b gb m p n s vB vM vL vS w3 T1 hB3 hS3 hG3 hsm h0 hn0 hs ht0 ht1 hl0 hl1).mono ?_
    rintro e w4 ⟨rfl, T4, s4, hG4⟩
    have hO4 := hO3.step s4 nSGf
    have lo := hO4.lt
    have o0 := hO4.cell (j := 0) rfl
    have o1 := hO4.cell (j := 1) rfl
    have o2 := hO4.cell (j := 2) rfl
    have z0 := hO4.frozen 0
    have z1 := hO4.frozen 1
    have z2 := hO4.frozen 2
    simp only [List.getElem_toArray, List.getElem_cons_succ, List.getElem_cons_zero] at o0 o1 o2
    generalize wrap64 (p.tr n + 1) = tr at *
    have s5 : Step (fun t => t = .free) w4 T4 (((w4.setCell ⟨wz, 0, none⟩ (.int .i64 n)).setCell ⟨wz, 1, none⟩ (.int .i64 tr)).setCell ⟨wz, 2, none⟩ (.string s)) T4 :=
      ((step_setCell w4 T4 wz 0 _ (S := fun t => t = .free) hO4.1).trans (step_setCell _ T4 wz 1 _ (S := fun t => t = .free) hO4.1)).trans (step_setCell _ T4 wz 2 _ (S := fun t => t = .free) hO4.1)
    have hO5 := ((hO4.set 0 (.int .i64 n)).set 1 (.int .i64 tr)).set 2 (.string s)
    have r0 := hO5.cell (j := 0) (v := .int .i64 n) (by simp)
    have r1 := hO5.cell (j := 1) (v := .int .i64 tr) (by simp)
    have r2 := hO5.cell (j := 2) (v := .string s) (by simp)
    go_wp2
    refine bodyPost_ret (v := .tuple #[.agg #[.int .i64 n, .int .i64 tr, .string s], .bool true]) ?_ rfl ⟨by rw [e1.out], T4, ?_, by rw [e2]; exact hG4.step s5 (by simp)⟩
    · simp [results, Tryz.results71, go_sem, r0, r1, r2]
    · exact (((s3.trans s4).setNew (by omega) _ _).setNew (by omega) _ _).setNew (by omega) _ _

end Go.Proofs.YtockkceclkcgbaaGreatDoor

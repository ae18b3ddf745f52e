/- Open of any text; a queue behind a Compact; a queue and the one that its log makes tell the same. -/
import Derived.Test.YtockkceclkcgbaaGreatDoorP18
import Derived.Test.YtockkceclkcgbaaGreatDoorX11
import Derived.Test.YtockkceclkcgbaaGreatDoorP11
namespace Go.Proofs.YtockkceclkcgbaaGreatDoor
open Go.RowKit Go.Maps

theorem CO.step {S : Tag → Prop} {w w' : World} {T T' : Nat → Tag} {i b : Nat} {c : Conf} {co : Core} {vL : Value} {ls : Nat} {lg : Bs} (h : CO w T i b c co vL ls lg) (hs : Step S w T w' T') (hS : ∀ t, XT i t → ¬ S t) : CO w' T' i b c co vL ls lg := by
  obtain ⟨h1, h2, vB, mb, f, hB, hR, hN, hG, hL⟩ := h
  have hq : ∀ r k, ¬ S (.q i r k) := fun r k => hS _ ⟨rfl, rfl⟩
  exact ⟨h1, h2, vB, mb, f, hB.step hs (hq _ _), hR.step hs (hq _ _), hN.step hs (hq _ _), fun k p hp => (hG k p hp).step hs (fun r _ => hq _ _), hL.step hs (hq _ _)⟩
/-- what Open answers -/
def openA (i : Nat) (c : Conf) (w' : World) (T' : Nat → Tag) (e : Ending) : Option (Core × Nat × Bs) → Prop
  | none => e = .returned (.tuple #[.pointer none, .int .i64 2])
  | some (co, s, lg) => ∃ b vL, e = .returned (.tuple #[.pointer (some ⟨b, 0, none⟩), .int .i64 0]) ∧ CO w' T' i b c co vL s lg
theorem xopenA_any (a0 a1 : Addr) (c : Conf) (t : Bs) (i : Nat) (w : World) (T : Nat → Tag) (hg : goodC c = true) (hLd : Laid w T a0 a1) (ht : t.length ≤ 1000000000000) :
    Calls Tryz.prog 25 #[.agg c.cells, .string (mkB t)] w fun e w' => ∃ T', Step (XT i) w T w' T' ∧ openA i c w' T' e (openT c t) := by
  refine (open_any c (mkB t) i w T (fun w' T' b => ∃ vL co s lg, openT c t = some (co, s, lg) ∧ CO w' T' i b c co vL s lg) (openT c t = none) (fun b mb w1 T1 hc hs1 hB hN => ?_)).mono ?_
  · refine (restore_any c i b mb t a0 a1 w1 T1 hc hB hN (hLd.step hs1 (by simp [XT])) (fun _ => load_any i b c) ht).mono ?_
    rintro e w2 ⟨T2, s2, hr⟩
    cases ho : openT c t with
    | none => rw [ho] at hr; exact ⟨T2, s2, .inr ⟨rfl, hr⟩⟩
    | some x =>
      obtain ⟨co, s, lg⟩ := x
      rw [ho] at hr
      obtain ⟨rfl, vL, hco⟩ := hr
      exact ⟨T2, s2, .inl ⟨rfl, vL, co, s, lg, rfl, hco⟩⟩
  · rintro e w2 (⟨h, _⟩ | ⟨hc, T2, s2, (⟨b, rfl, vL, co, s, lg, ho, hco⟩ | ⟨ho, rfl⟩)⟩)
    · rw [hg] at h; cases h
    · rw [ho]; exact ⟨T2, s2, b, vL, rfl, hco⟩
    · rw [ho]; exact ⟨T2, s2, rfl⟩

/-! behind a Compact -/
theorem log_compact {m : MQ} (hcok : COk m.c (coreM m)) : LogIs m (compL m.c (coreM m)) (compS m.c (coreM m)) := by
  have hlen := snapQ_len hcok
  have hph := phi_bound hcok
  have hl : (compL m.c (coreM m)).length = 12 + (snapQ (coreM m)).length := by unfold compL; rw [recB_length]; omega
  refine ⟨by have := recS_lt (seedS m.c) 99 (snapQ (coreM m)); simpa [compS] using this, hcok, by rw [hl]; omega, { coreM m with gs := sortG (coreM m) }, ?_, ⟨rfl, rfl, sortG_perm hcok.once⟩⟩
  have h := (told_zero m.c).add (k := 99) (d := snapQ (coreM m)) (q' := { coreM m with gs := sortG (coreM m) }) (by omega) (by
    show loadC m.c (snapQ (coreM m)) = _
    exact load_snap m.c (coreM m) hcok _ (sortG_perm hcok.once))
  simpa [compL, compS] using h

/-! tags that are laid anew -/
theorem XM.move {w : World} {T T' : Nat → Tag} {i b : Nat} {m : MQ} {vL vS : Value} {lg : Bs} (h : XM w T i b m vL vS lg) (hf : ∀ g r k, T g = .q i r k → T' g = .q i r k) : XM w T' i b m vL vS lg := by
  obtain ⟨h1, h2, h3, h4, h5, vB, mb, f, ps, hB, hR, hN, hG, hL⟩ := h
  exact ⟨h1, h2, h3, h4, h5, vB, mb, f, ps, hB.move (fun g => hf g _ _), hR.move (fun g => hf g _ _), hN.move (fun g => hf g _ _), fun k g hg => ⟨(hG k g hg).1.move (fun r g _ => hf g _ _), (hG k g hg).2⟩, hL.move (fun g => hf g _ _)⟩
theorem X.move {w : World} {T T' : Nat → Tag} {i b : Nat} {m : MQ} (h : X w T i b m) (hf : ∀ g r k, T g = .q i r k → T' g = .q i r k) : X w T' i b m := by
  obtain ⟨vL, s, lg, hx, h2⟩ := h
  exact ⟨vL, s, lg, hx.move hf, h2⟩

/-! what is told behind a crash -/
theorem wake_names (m : MQ) (ch : Int) : (wakeM m ch).names = m.names := by simp [MQ.names, wakeM, wakeG, Function.comp_def]
theorem tells_wake {m : MQ} {ch : Int} {K : Nat} (hr : Rels m) (hok : m.Ok) (hsm : m.bodies.length ≤ 400) : Tells m (wakeM m ch) K := by
  have hc := (wake_core (ch := ch) hr hok hsm).2
  have hat : ∀ s, (wakeM m ch).at s = m.at s := fun s => by unfold MQ.at; rw [wake_names]
  have key : ∀ s, doneL (wakeM m ch) s = doneL m s ∧ deadL (wakeM m ch) s = deadL m s := fun s => by
    unfold doneL deadL
    rw [hat s]
    cases m.at s with
    | none => exact ⟨rfl, rfl⟩
    | some k =>
      simp only [wakeM_group]
      cases hg : m.groups[k]? with
      | none => exact ⟨rfl, rfl⟩
      | some g =>
        have h1 := hc g (List.mem_of_getElem? hg)
        have h2 := congrArg CG.done h1
        have h3 := congrArg CG.dead h1
        exact ⟨h2, h3⟩
  exact ⟨rfl, rfl, fun k _ => (key _).1, fun k _ => (key _).2⟩

end Go.Proofs.YtockkceclkcgbaaGreatDoor

/- Logs that are the same tell the same. -/
namespace Go.Proofs.YtockkceclkcgbaaGreatDoor
open Go.RowKit

theorem tell_one {ma mb : MQ} (h : Same (coreM ma) (coreM mb)) (nb : mb.names.Nodup) (s : ByteArray) : doneL mb s = doneL ma s ∧ deadL mb s = deadL ma s := by
  have hn : ma.names.Perm mb.names := by
    have := h.gs.map Prod.fst
    simpa [coreM, MQ.names, Function.comp_def] using this
  unfold doneL deadL MQ.at
  cases ha : idx s ma.names with
  | none =>
    have hb : idx s mb.names = none := idx_none.2 (fun hm => idx_none.1 ha (hn.mem_iff.2 hm))
    rw [hb]
    exact ⟨rfl, rfl⟩
  | some k =>
    have hk := idx_some ha
    simp only [MQ.names, List.getElem?_map, Option.map_eq_some_iff] at hk
    obtain ⟨g, hg, rfl⟩ := hk
    have hmem : (g.name, coreG ma g) ∈ (coreM mb).gs := h.gs.mem_iff.1 (List.mem_map.2 ⟨g, List.mem_of_getElem? hg, rfl⟩)
    obtain ⟨g', hg', e⟩ := List.mem_map.1 hmem
    obtain ⟨k', hk'⟩ := List.getElem?_of_mem hg'
    simp only [Prod.mk.injEq] at e
    have hb : idx g.name mb.names = some k' := idx_of nb (by simp [MQ.names, hk', e.1])
    rw [hb]
    simp only [hg, hk']
    exact ⟨congrArg CG.done e.2, congrArg CG.dead e.2⟩
theorem tells_same {ma mb : MQ} {K : Nat} (h : Same (coreM ma) (coreM mb)) (nb : mb.names.Nodup) (fa : ma.Ok) (fb : mb.Ok) : ma.groups.length = mb.groups.length ∧ Tells ma mb K := by
  have hf : ma.floor = mb.floor := h.floor
  have hb := congrArg List.length h.bodies
  simp only [coreM, List.length_drop] at hb
  have h1 := fa.fl
  have h2 := fb.fl
  have hg := h.gs.length_eq
  simp only [coreM, List.length_map] at hg
  exact ⟨hg, ⟨hf.symm, by omega, fun k _ => (tell_one h nb _).1, fun k _ => (tell_one h nb _).2⟩⟩
theorem log_same {ma mb : MQ} {lg : Bs} {sa sb : Nat} (hc : ma.c = mb.c) (ha : LogIs ma lg sa) (hb : LogIs mb lg sb) : Same (coreM ma) (coreM mb) := by
  obtain ⟨qa, ta, ea⟩ := ha.told
  obtain ⟨qb, tb, eb⟩ := hb.told
  rw [hc] at ta
  obtain ⟨e, _⟩ := ta.one tb
  rw [e] at ea
  exact ea.symm.trans eb

theorem told_len2 (m : MQ) (s : ByteArray) {B : Int} (hf : m.Fit B) (hsm : m.bodies.length ≤ 400) : (doneL m s).length ≤ 100000 ∧ (deadL m s).length ≤ 100000 := by
  unfold doneL deadL
  cases m.at s with
  | none => exact ⟨by simp, by simp⟩
  | some k =>
    simp only
    cases hg : m.groups[k]? with
    | none => exact ⟨by simp, by simp⟩
    | some g =>
      have hgm := List.mem_of_getElem? hg
      have h1 := hf.dead hsm g hgm
      have h2 := hf.ok.len g hgm
      have h3 := doneTo_len g.items g.items.length
      simp only [List.length_map]
      exact ⟨by omega, by omega⟩

end Go.Proofs.YtockkceclkcgbaaGreatDoor

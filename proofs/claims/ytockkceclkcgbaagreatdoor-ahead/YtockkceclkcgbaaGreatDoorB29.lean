/- Contracts of the program's Open, Log, Span, Done and Dead, over the document's queue that it tells. -/
import Derived.Test.YtockkceclkcgbaaGreatDoorB28
import Derived.Maps.AppendAt
namespace Go.Proofs.YtockkceclkcgbaaGreatDoor
open Go.RowKit Go.Maps
variable {vL vS : Value} {lg : Bs}

attribute [local go_sem] over_cell

/-- the group of a name, whatever the name -/
theorem NM.look {w : World} {T : Nat → Tag} {t : Tag} {b : Nat} {names : List ByteArray} {f : Nat → Nat} (h : NM w T t b names f) (hsh : ∀ s ∈ names, s.size ≤ 16) (s : ByteArray) :
    (Instr.lookup 99 (.map (some b)) (.string s) false).run Tryz.prog w = .ok (ptrO ((idx s names).map f)) w := by
  obtain ⟨_, n, D, hown, hsz, hhas, hat⟩ := h
  by_cases hs : s.size ≤ maxLen
  · have hkey : keyOf Tryz.prog 9 (.string s) = some (keyL s) := Go.WideMaps.keyOf_string_mk Tryz.underlying9 hs
    obtain ⟨v, ps, hr, hv⟩ := hown.lookup law9 Tryz.underlying99 (zeroP _) (zd := .nil) (zp := []) rfl hkey
    have hv2 : v = ptrO ((idx s names).map f) := by
      cases hi : idx s names with
      | none =>
        rw [atKey_of_not_has (by rw [hhas, hi]; rfl)] at hv
        exact ptrElem_nil hv
      | some k =>
        rw [hat s k hi] at hv
        exact ptrElem_inv hv
    rw [hr, hv2]
  · have hi : idx s names = none := by
      cases hi : idx s names with
      | none => rfl
      | some k =>
        exfalso
        have := hsh s (List.mem_of_getElem? (idx_some hi))
        apply hs
        unfold maxLen
        omega
    rw [hi]
    obtain ⟨es, clock, hb, F, hs2, hD⟩ := hown
    have hks : ∀ x ∈ es.toList, ∃ s' : ByteArray, x.key = .string s' ∧ s'.size ≤ maxLen := fun x hx => by
      obtain ⟨l, hl⟩ := F.keys x hx
      obtain ⟨s', e, _, h2⟩ := Go.WideMaps.string_of_keyOf Tryz.underlying9 hl
      exact ⟨s', e, h2⟩
    have hk2 : ∀ x ∈ es.toList, Go.MapKept.IsKey .string x.key := fun x hx => by
      obtain ⟨s', e, _⟩ := hks x hx
      rw [e]
      trivial
    have hfind : (Instr.findKey 9 (.string s) es.toList).run Tryz.prog w = .ok none w := by
      rcases Go.MapKept.findNow_spec (d := .string) (k := .string s) trivial es.toList 0 hk2 with ⟨h1, h2⟩ | ⟨j, e0, h1, h2, h3⟩
      · exact Go.MapKept.run_findKey Tryz.underlying9 h1
      · exfalso
        obtain ⟨s', e, h5⟩ := hks e0 (List.mem_of_getElem? h2)
        rw [h3] at e
        cases e
        exact hs h5
    have hck : (Instr.checkKey false 10000 9 (.string s)).run Tryz.prog w = .ok () w := Go.MapKept.run_checkKey Tryz.underlying9 (d := .string) (k := .string s) trivial false 9999
    have hck2 : ∀ em, (Instr.checkKey em 10000 9 (.string s)).run Tryz.prog w = .ok () w := fun em => Go.MapKept.run_checkKey Tryz.underlying9 (d := .string) (k := .string s) trivial em 9999
    simp [Instr.lookup, run_underlying Tryz.underlying99, MapKept.run_getObj_map hb, hck2, hfind, Result.andThen, ptrO]

/-- the queue opened at its group's name -/
theorem XM.find {w : World} {T : Nat → Tag} {i b : Nat} {m : MQ} (h : XM w T i b m vL vS lg) : ∃ (vB : Value) (mb : Nat) (f : Nat → Nat) (ps : Nat → PG), Blk w T (.q i 0 0) b #[.int .i64 m.c.l, .int .i64 m.c.d, .int .i64 m.c.s, .int .i64 m.c.k, .int .i64 m.time, .int .i64 m.floor, vB, .map (some mb), vL, vS] 105 ∧
    Sub w T (.q i 1 0) vB ((m.bodies.drop m.floor.toNat).map .string) ∧ NM w T (.q i 2 0) mb m.names f ∧ (∀ k g, m.groups[k]? = some g → GM w T i k (f k) (ps k) ∧ RelG m g (ps k)) ∧ (∀ s, (Instr.lookup 99 (.map (some mb)) (.string s) false).run Tryz.prog w = .ok (ptrO ((m.at s).map f)) w) ∧ BRow w T (.q i 1 1) vL lg := by
  obtain ⟨vB, mb, f, ps, hB, hS, hN, hG, hL⟩ := h.mem
  exact ⟨vB, mb, f, ps, hB, hS, hN, hG, fun s => hN.look h.short s, hL⟩

theorem eqR_some (a : Addr) (n c : Nat) (w : World) : (binOp BinOp.eql 74 (.slice (some a) n c) (.slice none 0 0)).run Tryz.prog w = .ok (.bool false) w := by kernel_rfl
theorem eqR_none (w : World) : (binOp BinOp.eql 74 (.slice none 0 0) (.slice none 0 0)).run Tryz.prog w = .ok (.bool true) w := by kernel_rfl
theorem eqD_some (a : Addr) (n c : Nat) (w : World) : (binOp BinOp.eql 77 (.slice (some a) n c) (.slice none 0 0)).run Tryz.prog w = .ok (.bool false) w := by kernel_rfl
theorem eqD_none (w : World) : (binOp BinOp.eql 77 (.slice none 0 0) (.slice none 0 0)).run Tryz.prog w = .ok (.bool true) w := by kernel_rfl

theorem ownsRow_empty (w : World) (e : TypeId) (size : Nat) (base : Nat) (hb : base ≤ w.heap.size) : (w.alloc (.cells #[] e)).ownsRow base e size (.slice (some ⟨w.heap.size, 0, none⟩) 0 0) 0 [] := by
  refine ⟨by simp, .inr ⟨w.heap.size, 0, #[], rfl, hb, heap_alloc_new w _, ?_⟩⟩
  simp

set_option maxRecDepth 100000 in
set_option maxHeartbeats 400000 in
theorem cloneR_any (t : Tag) (v : Value) (L : RL) (w : World) (T : Nat → Tag) (h : Row w T t 69 2 v L.length (flat L)) (hlen : L.length ≤ 8796093022208) :
    Calls Tryz.prog 66 #[v] w fun e w' => ∃ ao cap, e = .returned (.slice ao L.length cap) ∧ w'.ownsRow w.heap.size 69 2 (.slice ao L.length cap) L.length (flat L) ∧ Below w.heap.size w w' := by
  have q1 := eqR_some
  have q2 := eqR_none
  rcases row_two h with ⟨rfl, rfl⟩ | ⟨g, cap, rfl, hc, hcap⟩
  · go_enter Tryz.func66, Tryz.ntmps66
    go_wp2
    go_ret
    exact ⟨none, 0, rfl, World.ownsRow_nil _ _ _ _, Below.refl _ _⟩
  · obtain ⟨i0, hi, hz0, hz1, hz2⟩ := info_parts info31
    go_enter Tryz.func66, Tryz.ntmps66
    have hal := step_alloc w T (.cells #[] 69) (fun _ => False)
    have hR := h.step hal (fun h => h)
    go_wp2_with (first
      | (at_builtin; refine wpList_append_own_at _ rfl _ _ 74 rfl w.heap.size 69 i0 _ 2 16 Tryz.underlying74 hi hz0 hz1 hz2 rfl (by decide) _ _ _ rfl (ownsRow_empty w 69 2 w.heap.size (Nat.le_refl _)) ⟨g, 0, none⟩ L.length cap (flat L) rfl (flat_length L) (fun j u hj => by rw [Addr.add_lit, Nat.zero_add]; exact hR.cell hj) (flat_oneCell L) (by unfold maxLen; omega) (by omega) (by simp) ?_; intro v' w1 hown' hgrow hnil hloc)
      | go_in)
    go_ret
    rw [Nat.zero_add, List.nil_append] at hown'
    obtain ⟨ao, cap', rfl⟩ := ownsRow_slice hown'
    refine ⟨ao, cap', rfl, hown', ?_⟩
    exact ((Below.refl w.heap.size w).alloc (Nat.le_refl _) _).grown hgrow (by simp) (fun k hk => by cases hk; exact Nat.le_refl _)

theorem rowD_two {w : World} {T : Nat → Tag} {t : Tag} {v : Value} {l : List Dl} (h : Row w T t 82 3 v l.length (dlVals l)) : (v = .slice none 0 0 ∧ l = []) ∨ ∃ g cap, v = .slice (some ⟨g, 0, none⟩) l.length cap := by
  rcases h.1.2 with ⟨h1, h2⟩ | ⟨g, cap, cur, rfl, _⟩
  · refine .inl ⟨h1, List.eq_nil_of_length_eq_zero ?_⟩
    first | exact h2 | omega
  · exact .inr ⟨g, cap, rfl⟩
theorem dlVals_oneCell : ∀ l : List Dl, ∀ u ∈ dlVals l, u.oneCell' = true
  | [], u, h => by cases h
  | x :: r, u, h => by
    simp only [dlVals, List.mem_cons] at h
    rcases h with rfl | rfl | rfl | h
    · rfl
    · rfl
    · rfl
    · exact dlVals_oneCell r u h

set_option maxRecDepth 100000 in
set_option maxHeartbeats 400000 in
theorem cloneD_any (t : Tag) (v : Value) (l : List Dl) (w : World) (T : Nat → Tag) (h : Row w T t 82 3 v l.length (dlVals l)) (hlen : l.length ≤ 4000) :
    Calls Tryz.prog 67 #[v] w fun e w' => ∃ ao cap, e = .returned (.slice ao l.length cap) ∧ w'.ownsRow w.heap.size 82 3 (.slice ao l.length cap) l.length (dlVals l) ∧ Below w.heap.size w w' := by
  have q1 := eqD_some
  have q2 := eqD_none
  rcases rowD_two h with ⟨rfl, rfl⟩ | ⟨g, cap, rfl⟩
  · go_enter Tryz.func67, Tryz.ntmps67
    go_wp2
    go_ret
    exact ⟨none, 0, rfl, World.ownsRow_nil _ _ _ _, Below.refl _ _⟩
  · obtain ⟨i0, hi, hz0, hz1, hz2⟩ := info_parts info71d
    go_enter Tryz.func67, Tryz.ntmps67
    have hal := step_alloc w T (.cells #[] 82) (fun _ => False)
    have hR := h.step hal (fun h => h)
    go_wp2_with (first
      | (at_builtin; refine wpList_append_own_at _ rfl _ _ 77 rfl w.heap.size 82 i0 _ 3 32 Tryz.underlying77 hi hz0 hz1 hz2 rfl (by decide) _ _ _ rfl (ownsRow_empty w 82 3 w.heap.size (Nat.le_refl _)) ⟨g, 0, none⟩ l.length cap (dlVals l) rfl (dlVals_length l) (fun j u hj => by rw [Addr.add_lit, Nat.zero_add]; exact hR.cell hj) (dlVals_oneCell l) (by unfold maxLen; omega) (by omega) (by simp) ?_; intro v' w1 hown' hgrow hnil hloc)
      | go_in)
    go_ret
    rw [Nat.zero_add, List.nil_append] at hown'
    obtain ⟨ao, cap', rfl⟩ := ownsRow_slice hown'
    refine ⟨ao, cap', rfl, hown', ?_⟩
    exact ((Below.refl w.heap.size w).alloc (Nat.le_refl _) _).grown hgrow (by simp) (fun k hk => by cases hk; exact Nat.le_refl _)

end Go.Proofs.YtockkceclkcgbaaGreatDoor

/- Contracts of the program's Span, Done and Dead, over the document's queue that it tells. -/
namespace Go.Proofs.YtockkceclkcgbaaGreatDoor
open Go.RowKit Go.Maps
variable {vL vS : Value} {lg : Bs}

attribute [local go_sem] over_cell

theorem XM.below {w w' : World} {T : Nat → Tag} {i b : Nat} {m : MQ} (h : XM w T i b m vL vS lg) (hb : Below w.heap.size w w') : XM w' T i b m vL vS lg := h.step (step_below (fun _ => False) T hb) (fun _ _ h => h)

theorem XM.cells {w : World} {T : Nat → Tag} {i b : Nat} {m : MQ} (h : XM w T i b m vL vS lg) (hok : m.Ok) : ∃ ao cap, b < w.heap.size ∧ w.cell? ⟨b, 5, none⟩ = some (.int .i64 m.floor) ∧ w.cell? ⟨b, 6, none⟩ = some (.slice ao (m.bodies.length - m.floor.toNat) cap) ∧ m.floor + ((m.bodies.length - m.floor.toNat : Nat) : Int) = m.bodies.length ∧ 0 ≤ m.floor ∧ m.floor ≤ 400 ∧ m.bodies.length - m.floor.toNat ≤ 400 := by
  have hsm := h.small
  have hfl := hok.fl
  obtain ⟨vB, mb, f, ps, hB, ⟨ao, cap, rfl, _⟩, _⟩ := h.mem
  have hlx : ((m.bodies.drop m.floor.toNat).map Value.string).length = m.bodies.length - m.floor.toNat := by simp
  rw [hlx] at hB
  exact ⟨ao, cap, hB.lt, hB.cell (j := 5) rfl, hB.cell (j := 6) rfl, by omega, by omega, by omega, by omega⟩

/-- the offset of the next message -/
theorem xend_any (i b : Nat) (m : MQ) (w : World) (T : Nat → Tag) (h : XM w T i b m vL vS lg) (hok : m.Ok) :
    Calls Tryz.prog 61 #[.pointer (some ⟨b, 0, none⟩)] w fun e w' => e = .returned (.int .i64 m.bodies.length) ∧ Below w.heap.size w w' := by
  obtain ⟨ao, cap, lb, c5, c6, e1, e2, e3, e4⟩ := h.cells hok
  refine (qend_any b m.floor ao _ cap w lb c5 c6 e2 e3 e4).mono fun e w' ⟨h1, h2⟩ => ⟨by rw [h1, e1], h2⟩

set_option maxHeartbeats 1000000 in
theorem xspan_any (i b : Nat) (m : MQ) (w : World) (T : Nat → Tag) (hx : XM w T i b m vL vS lg) (hok : m.Ok) :
    Calls Tryz.prog 24 #[.pointer (some ⟨b, 0, none⟩)] w fun e w' => e = .returned (.agg #[.int .i64 m.floor, .int .i64 m.bodies.length]) ∧ ∃ T', Step (XT i) w T w' T' ∧ XM w' T' i b m vL vS lg := by
  obtain ⟨ao, cap, hlt, c5, _⟩ := hx.cells hok
  go_enter Tryz.func24, Tryz.ntmps24
  go_wp2_with fail
  go_region_with (go_at_call 61; refine (xend_any (vL := vL) (vS := vS) (lg := lg) i b m _ T ?_ hok).mono ?_; (exact hx.below (((Below.refl _ _).alloc (Nat.le_refl _) _).trans (Below.refl _ _).drew)); rintro e w1 ⟨rfl, hb1⟩; have q1 := hb1.cell (p := ⟨b, 5, none⟩) (by simp; omega); have q2 := hb1.cell (p := ⟨w.heap.size, 0, none⟩) (by simp); have q3 := hb1.cell (p := ⟨w.heap.size, 1, none⟩) (by simp); have q4 := hb1.frozen (p := ⟨w.heap.size, 0, none⟩) (by simp); have q5 := hb1.frozen (p := ⟨w.heap.size, 1, none⟩) (by simp))
  all_goals
    go_wp2
    have hz1 := hb1.size
    simp at hz1
    have f0 : Below w.heap.size w w1 := ((Below.refl _ _).alloc (Nat.le_refl _) _).trans ((Below.refl _ _).drew.trans (hb1.mono (by simp)))
    have f1 := (f0.setCell (p := ⟨w.heap.size, 0, none⟩) (Nat.le_refl _) (.int .i64 m.floor)).setCell (p := ⟨w.heap.size, 1, none⟩) (Nat.le_refl _) (.int .i64 m.bodies.length)
    refine bodyPost_ret (v := .agg #[.int .i64 m.floor, .int .i64 m.bodies.length]) ?_ rfl ⟨rfl, T, step_below _ T f1, hx.below f1⟩
    simp [results, Tryz.results24, go_sem, q2, q3]

set_option maxRecDepth 100000 in
set_option maxHeartbeats 1000000 in
theorem xdone_any (i b : Nat) (m : MQ) (s : ByteArray) (t : Tag) (w : World) (T : Nat → Tag) (hx : XM w T i b m vL vS lg) (hok : m.Ok) :
    Calls Tryz.prog 28 #[.pointer (some ⟨b, 0, none⟩), .string s] w fun e w' =>
      ∃ ao cap, e = .returned (.tuple #[.slice ao (doneL m s).length cap, .int .i64 (doneE m s)]) ∧ ∃ T', Step (XT i) w T w' T' ∧ XM w' T' i b m vL vS lg ∧ Row w' T' t 69 2 (.slice ao (doneL m s).length cap) (doneL m s).length (pairVals (doneL m s)) := by
  obtain ⟨vB, mb, f, ps, hB, hS, hN, hG, lk, hLg⟩ := hx.find
  have lb := hB.lt
  have c7 := hB.cell (j := 7) rfl
  simp only [List.getElem_toArray, List.getElem_cons_succ, List.getElem_cons_zero] at c7
  have lks := lk s
  clear hB hS hN lk
  cases ha : m.at s with
  | none =>
    rw [ha] at lks
    simp only [Option.map_none, ptrO] at lks
    go_enter Tryz.func28, Tryz.ntmps28
    go_wp2
    go_ret2
    have e1 : doneL m s = [] := by simp [doneL, ha]
    have e2 : doneE m s = 10 := by simp [doneE, ha]
    rw [e1, e2]
    exact ⟨none, 0, rfl, T, Step.refl _ _ _, hx, row_nil _ _ _ _ _⟩
  | some k =>
    rw [ha] at lks
    simp only [Option.map_some, ptrO, ptrV] at lks
    obtain ⟨g, hg, _⟩ := at_group ha
    obtain ⟨hGk, hr⟩ := hG k g hg
    have hinv := hx.inv g (List.mem_of_getElem? hg)
    have hlen := hok.len g (List.mem_of_getElem? hg)
    have hsm := hx.small
    obtain ⟨vD, vE, tb, wb, hBg, hD, hE, hT, hW⟩ := hGk
    obtain ⟨ao, cap, rfl⟩ := row_form hD
    have lg := hBg.lt
    have d1 := hBg.cell (j := 1) rfl
    simp only [List.getElem_toArray, List.getElem_cons_succ, List.getElem_cons_zero] at d1
    have hL : (ps k).done = doneTo g.items g.items.length := set_is_done hinv.done (by omega) hr.set hr.done
    have e1 : doneL m s = (ps k).done := by simp [doneL, ha, hg, hL]
    have e2 : doneE m s = 0 := by simp [doneE, ha]
    have hlD : (ps k).done.length ≤ 8796093022208 := by have := setB_len hr.set; omega
    rw [e1, e2]
    clear hL hBg hE hT hW hG
    go_enter Tryz.func28, Tryz.ntmps28
    go_wp2_with fail
    refine (cloneR_any _ _ (ps k).done w T hD hlD).mono ?_
    rintro e w1 ⟨ao1, cap1, rfl, hown, hb1⟩
    go_wp2
    go_ret2
    obtain ⟨T1, hs1, hR1⟩ := own_row hb1 hown T t
    have hfp : flat (ps k).done = pairVals (ps k).done := by
      induction (ps k).done with
      | nil => rfl
      | cons r l ih => show _ :: _ :: flat l = _; rw [ih]; rfl
    rw [hfp] at hR1
    exact ⟨ao1, cap1, rfl, T1, hs1.mono (fun _ h => h.elim), hx.step hs1 (fun _ _ h => h), hR1⟩

set_option maxRecDepth 100000 in
set_option maxHeartbeats 1000000 in
theorem xdead_any (i b : Nat) (m : MQ) (s : ByteArray) (t : Tag) (w : World) (T : Nat → Tag) (hx : XM w T i b m vL vS lg) (hdl : ∀ g ∈ m.groups, g.dead.length ≤ 4000) :
    Calls Tryz.prog 29 #[.pointer (some ⟨b, 0, none⟩), .string s] w fun e w' =>
      ∃ ao cap, e = .returned (.tuple #[.slice ao (deadL m s).length cap, .int .i64 (doneE m s)]) ∧ ∃ T', Step (XT i) w T w' T' ∧ XM w' T' i b m vL vS lg ∧ Row w' T' t 82 3 (.slice ao (deadL m s).length cap) (deadL m s).length (dlVals (deadL m s)) := by
  obtain ⟨vB, mb, f, ps, hB, hS, hN, hG, lk, hLg⟩ := hx.find
  have lb := hB.lt
  have c7 := hB.cell (j := 7) rfl
  simp only [List.getElem_toArray, List.getElem_cons_succ, List.getElem_cons_zero] at c7
  have lks := lk s
  clear hB hS hN lk
  cases ha : m.at s with
  | none =>
    rw [ha] at lks
    simp only [Option.map_none, ptrO] at lks
    go_enter Tryz.func29, Tryz.ntmps29
    go_wp2
    go_ret2
    have e1 : deadL m s = [] := by simp [deadL, ha]
    have e2 : doneE m s = 10 := by simp [doneE, ha]
    rw [e1, e2]
    exact ⟨none, 0, rfl, T, Step.refl _ _ _, hx, row_nil _ _ _ _ _⟩
  | some k =>
    rw [ha] at lks
    simp only [Option.map_some, ptrO, ptrV] at lks
    obtain ⟨g, hg, _⟩ := at_group ha
    obtain ⟨hGk, hr⟩ := hG k g hg
    obtain ⟨vD, vE, tb, wb, hBg, hD, hE, hT, hW⟩ := hGk
    obtain ⟨ao, cap, rfl⟩ := row_form hE
    have lg := hBg.lt
    have d2 := hBg.cell (j := 2) rfl
    simp only [List.getElem_toArray, List.getElem_cons_succ, List.getElem_cons_zero] at d2
    have e1 : deadL m s = (ps k).dead := by simp [deadL, ha, hg, hr.dead]
    have e2 : doneE m s = 0 := by simp [doneE, ha]
    have hlD : (ps k).dead.length ≤ 4000 := by rw [hr.dead, List.length_map]; exact hdl g (List.mem_of_getElem? hg)
    rw [e1, e2]
    clear hBg hD hT hW hG
    go_enter Tryz.func29, Tryz.ntmps29
    go_wp2_with fail
    refine (cloneD_any _ _ (ps k).dead w T hE hlD).mono ?_
    rintro e w1 ⟨ao1, cap1, rfl, hown, hb1⟩
    go_wp2
    go_ret2
    obtain ⟨T1, hs1, hR1⟩ := own_row hb1 hown T t
    exact ⟨ao1, cap1, rfl, T1, hs1.mono (fun _ h => h.elim), hx.step hs1 (fun _ _ h => h), hR1⟩

end Go.Proofs.YtockkceclkcgbaaGreatDoor

/- Contracts of the program's Enqueue and Group, over the document's queue that it tells. -/
import Derived.Test.YtgcbooflhdjnhaaT26
import Derived.Deep.RegionHeld3
namespace Go.Proofs.Ytgcbooflhdjnhaa
open Go.RowKit Go.Maps

attribute [local go_sem] over_cell

theorem wpList_append_sub2 {w : World} {T : Nat → Tag} {t : Tag} {ops : Array Oper} {rest : List Oper} {o : Oper} {a : Act} {Q : Exit → Act → World → Prop} (hgd : o.guard = none) (s x : Operand)
    (ho : o.op = .call { callee := .builtin .append, args := #[s, x], argTypes := #[75, 75] }) (v : Value) (xs : List Value) (hs : a.eval s = v) (hsub : Sub w T t v xs)
    (ad : Addr) (u : Value) (hx : a.eval x = .slice (some ad) 1 1) (hu : w.cell? ad = some u) (h1 : u.oneCell' = true) (ha : ad.add 0 = ad) (K : Nat) (hK : xs.length = K) (hn : K ≤ 4096)
    (h : ∀ ao' cap' w' T', Sub w' T' t (.slice ao' (K + 1) cap') (xs ++ [u]) → Step (fun s => s = t) w T w' T' → wpList Try.prog ops Q rest (a.put o.dst (.slice ao' (K + 1) cap')) w') : wpList Try.prog ops Q (o :: rest) a w := by
  refine wpList_append_sub hgd s x ho v xs hs hsub ad u hx hu h1 ha (by omega) ?_
  intro v' w' T' hS hs'
  have hS2 := hS
  obtain ⟨ao', cap', rfl, _⟩ := hS
  have e : (xs ++ [u]).length = K + 1 := by simp [hK]
  rw [e] at hS2 ⊢
  exact h ao' cap' w' T' hS2 hs'

theorem enq_groups {m : MQ} {s : ByteArray} (h : menqE m s = 0) : menqM m s = { m with bodies := m.bodies ++ [s], groups := m.groups.map (fun g => { g with items := g.items ++ [It.zero] }), changes := wrap64 (m.changes + 1) } := by
  simp [menqM, h]
theorem enq_no {m : MQ} {s : ByteArray} (h : menqE m s ≠ 0) : menqM m s = m := by simp [menqM, h]
theorem drop_snoc (l : List ByteArray) (n : Nat) (s : ByteArray) (h : n ≤ l.length) : ((l ++ [s]).drop n).map Value.string = (l.drop n).map Value.string ++ [.string s] := by
  rw [List.drop_append_of_le_length h, List.map_append]
  rfl

/-- a message more, in memory -/
theorem X.enq {w w' : World} {T T' : Nat → Tag} {i b : Nat} {m : MQ} {s : ByteArray} (hx : X w T i b m) (hok : m.Ok) (hE : menqE m s = 0) (hsm : m.bodies.length < 400) (vB' : Value) (hs : Step (fun t => t = .q i 0 0 ∨ t = .q i 1 0) w T w' T')
    (hB : ∀ vB mb, Blk w T (.q i 0 0) b #[.int .i64 m.c.l, .int .i64 m.c.d, .int .i64 m.c.s, .int .i64 m.c.k, .int .i64 m.time, .int .i64 m.floor, vB, .map (some mb)] 105 → Blk w' T' (.q i 0 0) b #[.int .i64 m.c.l, .int .i64 m.c.d, .int .i64 m.c.s, .int .i64 m.c.k, .int .i64 m.time, .int .i64 m.floor, vB', .map (some mb)] 105)
    (hS : Sub w' T' (.q i 1 0) vB' ((m.bodies.drop m.floor.toNat).map .string ++ [.string s])) : X w' T' i b (menqM m s) := by
  rw [enq_groups hE]
  have hfl := hok.fl
  have ht := hok.time
  have hgood := hok.good
  have hd0 : 0 ≤ m.c.d := by
    simp only [goodC, Bool.and_eq_true] at hgood
    have := btw_true hgood.2.1
    omega
  obtain ⟨h1, h2, h3, h4, h5, vB, mb, f, ps, hB0, hS0, hN, hG⟩ := hx
  have hnames : ({ m with bodies := m.bodies ++ [s], groups := m.groups.map (fun g => { g with items := g.items ++ [It.zero] }), changes := wrap64 (m.changes + 1) } : MQ).names = m.names := by simp [MQ.names, Function.comp_def]
  refine ⟨by simp; omega, by simpa using h2, by rw [hnames]; exact h3, by rw [hnames]; exact h4, fun g hg => ?_, vB', mb, f, ps, hB vB mb hB0, ?_, by rw [hnames]; exact hN.step hs (by simp), fun k g hg => ?_⟩
  · simp only [List.mem_map] at hg
    obtain ⟨g0, hg0, rfl⟩ := hg
    exact inv_enq (h5 g0 hg0) ht.1 hd0 rfl rfl
  · show Sub w' T' (.q i 1 0) vB' (((m.bodies ++ [s]).drop m.floor.toNat).map .string)
    rw [drop_snoc _ _ _ (by omega)]
    exact hS
  · simp only [List.getElem?_map] at hg
    obtain ⟨g0, hg0, rfl⟩ := Option.map_eq_some_iff.1 hg
    have hm0 := List.mem_of_getElem? hg0
    exact ⟨(hG k g0 hg0).1.step hs (by intro r hr; simp; omega), rel_enq (s := s) (hG k g0 hg0).2 (h5 g0 hm0) (hok.len g0 hm0) ht.1 rfl rfl⟩

set_option maxRecDepth 100000 in
set_option maxHeartbeats 1000000 in
theorem xenq_any (i b : Nat) (m : MQ) (s : ByteArray) (w : World) (T : Nat → Tag) (hx : X w T i b m) (hok : m.Ok) : Calls Try.prog 18 #[.pointer (some ⟨b, 0, none⟩), .string s] w fun e w' =>
      e = .returned (.tuple #[.int .i64 (bif decide (menqE m s = 0) then (m.bodies.length : Int) else 0), .int .i64 (menqE m s)]) ∧ ∃ T', Step (XT i) w T w' T' ∧ X w' T' i b (menqM m s) := by
  have hsm := hx.small
  have hfl := hok.fl
  by_cases h1 : 64 < s.size
  · have eE : menqE m s = 3 := by simp [menqE, enqY, h1]
    rw [eE, enq_no (by omega)]
    go_enter Try.func18, Try.ntmps18
    go_wp2
    go_ret2
    exact ⟨by simp, T, Step.refl _ _ _, hx⟩
  go_enter Try.func18, Try.ntmps18
  go_wp2_with fail
  refine (xend_any i b m _ T hx hok).mono ?_
  rintro e w1 ⟨rfl, hb1⟩
  have f1 : Step (XT i) w T w1 T := step_below _ T hb1
  replace hx := hx.below hb1
  clear hb1
  by_cases h2 : 400 ≤ m.bodies.length
  · have eE : Hid (menqE m s = 5) := hide (by simp [menqE, enqY, h1, h2])
    go_wp2
    go_ret2
    exact ⟨by simp [eE.out], T, f1, by rw [enq_no (by rw [eE.out]; omega)]; exact hx⟩
  obtain ⟨vB, mb, f, ps, hB, hS, _⟩ := hx.mem
  obtain ⟨K, hK⟩ : ∃ K, Hid (K = m.bodies.length - m.floor.toNat) := ⟨_, hide rfl⟩
  have hlx : ((m.bodies.drop m.floor.toNat).map Value.string).length = K := by rw [hK.out]; simp
  have hSk := hS
  obtain ⟨ao, cap, rfl, _⟩ := hS
  rw [hlx] at hB hSk
  have hKf : Hid ((K : Int) = m.bodies.length - m.floor) := hide (by rw [hK.out]; omega)
  have hlt := hB.lt
  have c3 := hB.cell (j := 3) rfl
  have c6 := hB.cell (j := 6) rfl
  simp only [List.getElem_toArray, List.getElem_cons_succ, List.getElem_cons_zero] at c3 c6
  have hK4 : K ≤ 400 := by rw [hK.out]; omega
  go_wp2_with fail
  refine wp_region_over (by kernel_rfl) (by kernel_rfl) ?_
  repeat (go_big_quiet_step (fail))
  refine wpQuiet_nil ?_
  rintro _ ⟨x, rfl⟩
  have hb2 := over_below w1 x
  generalize over w1 x = w2 at *
  have g2 := step_below (fun _ => False) T hb2
  replace f1 := f1.trans (step_below _ T hb2)
  replace hx := hx.below hb2
  replace hB := hB.step g2 (fun h => h)
  replace hSk := hSk.step g2 (fun h => h)
  clear c3 c6 hlt g2 hb2
  by_cases h3 : m.c.k ≤ (K : Int)
  · have eE : Hid (menqE m s = 4) := hide (by
      have : m.c.k ≤ (m.bodies.length : Int) - m.floor := by have := hKf.out; omega
      simp [menqE, enqY, h1, h2, this])
    go_wp2
    go_ret2
    exact ⟨by simp [eE.out], T, f1, by rw [enq_no (by rw [eE.out]; omega)]; exact hx⟩
  have eE : Hid (menqE m s = 0) := hide (by
    have : ¬ m.c.k ≤ (m.bodies.length : Int) - m.floor := by have := hKf.out; omega
    simp [menqE, enqY, h1, h2, this])
  have hlt := hB.lt
  have c6 := hB.cell (j := 6) rfl
  simp only [List.getElem_toArray, List.getElem_cons_succ, List.getElem_cons_zero] at c6
  have hal := step_alloc w2 T (.cells #[.string s] 9) (fun _ => False)
  have hSa := hSk.step hal (fun h => h)
  have hBa := hB.step hal (fun h => h)
  have hxa := hx.step hal (fun _ _ h => h)
  have hcell := cell_one_new w2 (.string s) 9 0 (.string s) rfl
  clear hK hKf
  go_wp2_with (first
    | (at_builtin; refine wpList_append_sub2 rfl _ _ rfl _ _ rfl hSa ⟨w2.heap.size, 0, none⟩ (.string s) rfl hcell rfl rfl K hlx (by omega) ?_; intro ao3 cap3 w3 T3 hS3 hs3; have hB3 := hBa.step hs3 (by simp); have l3 := hB3.lt; have d6 := hB3.cell (j := 6) rfl; have e6 := hB3.frozen 6)
    | go_in)
  go_ret2
  have hs4 : Step (fun t => t = .q i 0 0) w3 T3 (w3.setCell ⟨b, 6, none⟩ (.slice ao3 (K + 1) cap3)) T3 := step_setCell _ _ _ _ _ hB3.1
  have hs5 : Step (fun t => t = .q i 0 0 ∨ t = .q i 1 0) (w2.alloc (.cells #[.string s] 9)) T (w3.setCell ⟨b, 6, none⟩ (.slice ao3 (K + 1) cap3)) T3 := (hs3.mono (fun _ h => .inr h)).trans (hs4.mono (fun _ h => .inl h))
  refine ⟨by simp [eE.out], T3, f1.trans ((hal.mono (fun _ h => h.elim)).trans (hs5.mono (fun t ht => by rcases ht with rfl | rfl <;> exact ⟨rfl, rfl⟩))), ?_⟩
  refine hxa.enq hok eE.out (by omega) (.slice ao3 (K + 1) cap3) hs5 (fun vB' mb' hB' => ?_) (hS3.step hs4 (by simp))
  have e2 : mb' = mb := by
    have e1 := (hBa.cell (j := 7) rfl).symm.trans (hB'.cell (j := 7) rfl)
    simpa using e1.symm
  subst e2
  exact hB3.set 6 _

/-! names -/
theorem idx_snoc (x s : ByteArray) : ∀ l : List ByteArray, idx x (l ++ [s]) = match idx x l with | some k => some k | none => if s = x then some l.length else none
  | [] => by by_cases h : s = x <;> simp [idx, h]
  | y :: r => by
    have ih := idx_snoc x s r
    simp only [List.cons_append, idx]
    by_cases hy : y = x
    · simp [hy]
    · simp only [hy, decide_false, cond_false, ih]
      cases idx x r with
      | some k => rfl
      | none => by_cases h : s = x <;> simp [h]
theorem idx_lt {x : ByteArray} {l : List ByteArray} {k : Nat} (h : idx x l = some k) : k < l.length := (List.getElem?_eq_some_iff.1 (idx_some h)).1
theorem idx_none {x : ByteArray} : ∀ {l : List ByteArray}, idx x l = none ↔ x ∉ l
  | [] => by simp [idx]
  | y :: r => by
    have ih := idx_none (x := x) (l := r)
    unfold idx
    by_cases hy : y = x
    · simp [hy]
    · simp only [hy, decide_false, cond_false, Option.map_eq_none_iff, ih, List.mem_cons, not_or]
      exact ⟨fun h => ⟨fun e => hy e.symm, h⟩, fun h => h.2⟩
def updN (f : Nat → Nat) (n v : Nat) : Nat → Nat := fun k => if k = n then v else f k

/-- a group more in the map -/
theorem NM.store {w : World} {T : Nat → Tag} {t : Tag} {b : Nat} {names : List ByteArray} {f : Nat → Nat} (h : NM w T t b names f) (hl : names.length ≤ 6) {s : ByteArray} (hs : s.size ≤ 16) (hnew : idx s names = none) (gb : Nat) :
    ∃ w', (Instr.mapUpdate 103 (.map (some b)) (.string s) (.pointer (some ⟨gb, 0, none⟩))).run Try.prog w = .ok () w' ∧ NM w' T t b (names ++ [s]) (updN f names.length gb) ∧ Step (fun s => s = t) w T w' T := by
  obtain ⟨hT, n, D, hown, hsz, hhas, hat⟩ := h
  have hkey : keyOf Try.prog 9 (.string s) = some (keyL s) := Go.WideMaps.keyOf_string_mk Try.underlying9 (by unfold maxLen; omega)
  have hown2 := ownsMap_tight hown
  rw [hsz] at hown2
  obtain ⟨w', hrun, hM, hg⟩ := hown2.update law9 Try.underlying103 (by unfold maxLen; omega) hkey (ptrElem_mk gb)
  have hns : Maps.has D (keyL s) = false := by rw [hhas, hnew]; rfl
  refine ⟨w', hrun, ⟨hT, _, _, hM, ?_, fun x => ?_, fun x k hk z => ?_⟩, step_grown hg (fun j hj => by cases hj; exact hT) (fun _ _ => rfl)⟩
  · rw [size_put (hown.tidy law9), hns, hsz]
    simp
  · rw [idx_snoc]
    by_cases hx : x = s
    · subst hx
      rw [has_put_same hown.isMap (keyL_key _), hnew]
      simp
    · rw [has_put_other (fun e => hx (keyL_inj e)), hhas]
      have : ¬ s = x := fun e => hx e.symm
      cases idx x names <;> simp [this]
  · rw [idx_snoc] at hk
    by_cases hx : x = s
    · subst hx
      rw [hnew] at hk
      simp at hk
      rw [atKey_put_same hown.isMap (keyL_key _), ← hk]
      simp [updN]
    · have hsx : ¬ s = x := fun e => hx e.symm
      cases hi : idx x names with
      | none => rw [hi] at hk; simp [hsx] at hk
      | some j =>
        rw [hi] at hk
        simp at hk
        subst hk
        have hj := idx_lt hi
        rw [atKey_put_other (fun e => hx (keyL_inj e)), hat x j hi]
        have : ¬ j = names.length := by omega
        simp [updN, this]

end Go.Proofs.Ytgcbooflhdjnhaa

/- The contract of the program's Group, over the document's queue that it tells. -/
namespace Go.Proofs.Ytgcbooflhdjnhaa
open Go.RowKit Go.Maps

attribute [local go_sem] over_cell

theorem at_memB (m : MQ) (s : ByteArray) : (m.at s).isSome = memB s m.names := by
  cases h : m.at s with
  | none =>
    have := idx_none.1 h
    rw [memB_not.2 this]; rfl
  | some k =>
    have := List.mem_of_getElem? (idx_some h)
    rw [memB_iff.2 this]; rfl
theorem NM.len {w : World} {T : Nat → Tag} {t : Tag} {b : Nat} {names : List ByteArray} {f : Nat → Nat} (h : NM w T t b names f) (ty : TypeId) : (Builtin.len_ #[103] ty #[.map (some b)]).run Try.prog w = .ok (.int .i64 names.length) w := by
  obtain ⟨_, n, D, hown, hsz, _⟩ := h
  rw [← hsz]
  exact hown.len Try.underlying103 ty
theorem grp_no {m : MQ} {s : ByteArray} {fr : Int} (h : mgrpE m s fr ≠ 0) : mgrpM m s fr = m := by simp [mgrpM, h]

def updP (f : Nat → PG) (n : Nat) (v : PG) : Nat → PG := fun k => if k = n then v else f k

set_option maxRecDepth 100000 in
set_option maxHeartbeats 1000000 in
theorem xgrp_any (i b : Nat) (m : MQ) (s : ByteArray) (fr : Int) (w : World) (T : Nat → Tag) (hx : X w T i b m) (hok : m.Ok) : Calls Try.prog 61 #[.pointer (some ⟨b, 0, none⟩), .string s, .int .i64 fr] w fun e w' =>
      e = .returned (.int .i64 (mgrpE m s fr)) ∧ ∃ T', Step (XT i) w T w' T' ∧ X w' T' i b (mgrpM m s fr) := by
  have hl6 := hx.few
  go_enter Try.func61, Try.ntmps61
  go_wp2_with fail
  refine (isName_any _ _).mono ?_
  rintro e w1 ⟨rfl, hb1⟩
  have f1 : Step (XT i) w T w1 T := step_below _ T hb1
  replace hx := hx.below hb1
  clear hb1
  cases h1 : btw s.size 1 16
  · have eE : Hid (mgrpE m s fr = 6) := hide (by simp [mgrpE, h1])
    go_wp2
    go_ret
    exact ⟨by rw [eE.out]; rfl, T, f1, by rw [grp_no (by rw [eE.out]; omega)]; exact hx⟩
  have hl16 := (btw_true h1).2
  obtain ⟨vB, mb, f, ps, hB, hS, hN, hG, lk⟩ := hx.find
  have lb := hB.lt
  have c7 := hB.cell (j := 7) rfl
  simp only [List.getElem_toArray, List.getElem_cons_succ, List.getElem_cons_zero] at c7
  have lks := lk s
  have hml := hN.len
  have hnl : m.names.length = m.groups.length := by simp [MQ.names]
  rw [hnl] at hml
  clear lk
  have hms := at_memB m s
  cases h2 : memB s m.names
  case true =>
    have eE : Hid (mgrpE m s fr = 7) := hide (by simp [mgrpE, h1, h2])
    rw [h2] at hms
    obtain ⟨k, ha⟩ := Option.isSome_iff_exists.1 hms
    rw [ha] at lks
    simp only [Option.map_some, ptrO, ptrV] at lks
    go_wp2
    go_ret
    exact ⟨by rw [eE.out]; rfl, T, f1, by rw [grp_no (by rw [eE.out]; omega)]; exact hx⟩
  rw [h2] at hms
  have ha : m.at s = none := by simpa using hms
  rw [ha] at lks
  simp only [Option.map_none, ptrO] at lks
  clear hms
  by_cases h3 : 6 ≤ m.groups.length
  · have eE : Hid (mgrpE m s fr = 8) := hide (by simp [mgrpE, h1, h2, h3])
    go_wp2
    go_ret
    exact ⟨by rw [eE.out]; rfl, T, f1, by rw [grp_no (by rw [eE.out]; omega)]; exact hx⟩
  have c5 := hB.cell (j := 5) rfl
  simp only [List.getElem_toArray, List.getElem_cons_succ, List.getElem_cons_zero] at c5
  go_wp2_with fail
  refine wp_region_over (by kernel_rfl) (by kernel_rfl) ?_
  repeat (go_big_quiet_step (first
    | (go_at_call 42; exact quiet_over_at (xend_any i b m _ T (hx.below (over_below _ _)) hok))
    | (go_at_call 84; exact quiet_over (fun w1 => between_any _ _ _ w1))))
  refine wpQuiet_nil ?_
  rintro _ ⟨x, rfl⟩
  have hb2 := over_below w1 x
  generalize over w1 x = w2 at *
  have g2 := step_below (fun _ => False) T hb2
  replace f1 := f1.trans (step_below _ T hb2)
  replace hx := hx.below hb2
  replace hB := hB.step g2 (fun h => h)
  replace hN := hN.step g2 (fun h => h)
  replace hS := hS.step g2 (fun h => h)
  replace hG : ∀ k g, m.groups[k]? = some g → GM w2 T i k (f k) (ps k) ∧ RelG m g (ps k) := fun k g h => ⟨(hG k g h).1.step g2 (fun _ _ h => h), (hG k g h).2⟩
  clear c5 c7 lb lks hml g2 hb2
  cases h4 : btw fr m.floor m.bodies.length
  · have eE : Hid (mgrpE m s fr = 9) := hide (by simp [mgrpE, h1, h2, h3, h4])
    go_wp2
    go_ret
    exact ⟨by rw [eE.out]; rfl, T, f1, by rw [grp_no (by rw [eE.out]; omega)]; exact hx⟩
  have eE : Hid (mgrpE m s fr = 0) := hide (by simp [mgrpE, h1, h2, h3, h4])
  have lb := hB.lt
  have c7 := hB.cell (j := 7) rfl
  simp only [List.getElem_toArray, List.getElem_cons_succ, List.getElem_cons_zero] at c7
  have hdr := step_below (fun _ => False) T (Below.refl w2.heap.size w2).drew
  go_wp2_with fail
  go_region_held3 (fun w' => w'.cell? ⟨b, 7, none⟩ = some (.map (some mb))) (go_keep) (first | (go_at_call 85; refine (newGroup_any i m.groups.length fr _ T).mono ?_; rintro e w5 ⟨gb, rfl, T5, hs5, hG5⟩; obtain ⟨w6, hrun6, hN6, hs6⟩ := (hN.step (hdr.trans hs5) (fun h => h)).store (by omega) (by omega) ha gb; have k7 := (hB.step (hdr.trans hs5) (fun h => h)).cell (j := 7) rfl; have k8 := ((hB.step (hdr.trans hs5) (fun h => h)).step hs6 (by simp)).cell (j := 7) rfl; simp only [List.getElem_toArray, List.getElem_cons_succ, List.getElem_cons_zero] at k7 k8))
  go_wp2
  go_ret
  have g5 : Step (fun _ => False) w2 T w5 T5 := hdr.trans hs5
  have g6 : Step (fun t => t = .q i 2 0) w2 T w6 T5 := (g5.mono (fun _ h => h.elim)).trans hs6
  refine ⟨by rw [eE.out]; rfl, T5, f1.trans (g6.mono (fun t ht => by subst ht; exact ⟨rfl, rfl⟩)), ?_⟩
  have e0 : mgrpM m s fr = { m with groups := m.groups ++ [⟨s, fr, List.replicate m.bodies.length It.zero, []⟩], changes := wrap64 (m.changes + 1) } := by simp [mgrpM, eE.out]
  rw [e0]
  have ht := hok.time
  have hgood := hok.good
  have hd0 : 0 ≤ m.c.d := by
    simp only [goodC, Bool.and_eq_true] at hgood
    have := btw_true hgood.2.1
    omega
  obtain ⟨q1, q2, q3, q4, q5, _⟩ := hx
  have hnames : ({ m with groups := m.groups ++ [⟨s, fr, List.replicate m.bodies.length It.zero, []⟩], changes := wrap64 (m.changes + 1) } : MQ).names = m.names ++ [s] := by simp [MQ.names]
  refine ⟨q1, by simp; omega, ?_, ?_, fun g hg => ?_, vB, mb, updN f m.names.length gb, updP ps m.groups.length (newP fr), hB.step g6 (by simp), ?_, by rw [hnames]; exact hN6, fun k g hg => ?_⟩
  · rw [hnames]
    exact List.nodup_append.2 ⟨q3, by simp, fun a ha' b' hb e => by simp at hb; subst hb; subst e; exact memB_not.1 h2 ha'⟩
  · rw [hnames]
    intro x hx'
    rcases List.mem_append.1 hx' with h | h
    · exact q4 x h
    · simp at h; subst h; omega
  · rcases List.mem_append.1 hg with h | h
    · exact (q5 g h).same rfl rfl
    · simp at h
      subst h
      exact (inv_new (m := m) ht.1 hd0).same rfl rfl
  · exact hS.step g6 (by simp)
  · rcases Nat.lt_or_ge k m.groups.length with hk | hk
    · simp only [List.getElem?_append_left hk] at hg
      have hk2 : ¬ k = m.names.length := by omega
      have hk3 : ¬ k = m.groups.length := by omega
      simp only [updN, updP, hk2, hk3, if_false]
      exact ⟨(hG k g hg).1.step g6 (by intro r hr; simp; omega), (hG k g hg).2.same rfl rfl⟩
    · simp only [List.getElem?_append_right hk] at hg
      have hk0 : k = m.groups.length := by
        rcases Nat.lt_or_ge (k - m.groups.length) 1 with h2 | h2
        · omega
        · rw [List.getElem?_eq_none (by simpa using h2)] at hg; cases hg
      subst hk0
      simp at hg
      subst hg
      simp only [updN, updP, hnl, if_true]
      exact ⟨hG5.step hs6 (by intro r hr; simp; omega), (rel_new (m := m) ht.1).same rfl rfl⟩

end Go.Proofs.Ytgcbooflhdjnhaa

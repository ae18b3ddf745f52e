/- The program's queue as it lies in memory: its cells, its bodies, its map of groups; contracts of Open of an empty log, of end and of Span. -/
import Derived.Test.YtedbcmlekjagpaaO2
namespace Go.Proofs.Ytedbcmlekjagpaa
open Go.RowKit Go.Maps

/-- how an element of the map of groups reads: nil, or a pointer -/
def ptrElem : Value → Option (DataW Unit × List MemPlace)
  | .pointer none => some (.nil, [])
  | .pointer (some _) => some (.lit (.bool true), [])
  | _ => none

theorem ptrElem_yes {v : Value} {ps : List MemPlace} (h : ptrElem v = some (.lit (.bool true), ps)) : ∃ a, v = .pointer (some a) := by
  cases v <;> simp [ptrElem] at h
  rename_i p
  cases p with
  | none => simp at h
  | some a => exact ⟨a, rfl⟩
theorem ptrElem_no {v : Value} {ps : List MemPlace} (h : ptrElem v = some (.nil, ps)) : v = .pointer none := by
  cases v <;> simp [ptrElem] at h
  rename_i p
  cases p with
  | none => rfl
  | some a => simp at h

def keyL (s : ByteArray) : Lit := .string s.data.toList
theorem keyL_inj {a b : ByteArray} (h : keyL a = keyL b) : a = b := by
  cases a; cases b
  simp [keyL] at h
  rw [h]
theorem keyL_key (s : ByteArray) : WideAt.IsKeyLit (keyL s) := trivial

/-- the map whose keys are the names -/
def namesD (names : List ByteArray) : DataW Unit := Maps.setOf (.lit (.bool true)) (names.map keyL)

theorem namesD_snoc (names : List ByteArray) (s : ByteArray) : namesD (names ++ [s]) = (namesD names).put (keyL s) (.lit (.bool true)) := by
  simp [namesD, Maps.setOf_snoc]
theorem namesD_keys (names : List ByteArray) : ∀ x ∈ names.map keyL, WideAt.IsKeyLit x := by
  intro x hx
  obtain ⟨s, _, rfl⟩ := List.mem_map.1 hx
  exact keyL_key s
def memB (s : ByteArray) (names : List ByteArray) : Bool := names.any (fun x => decide (x = s))
theorem memB_iff {s : ByteArray} {names : List ByteArray} : memB s names = true ↔ s ∈ names := by simp [memB]
theorem memB_not {s : ByteArray} {names : List ByteArray} : memB s names = false ↔ s ∉ names := by rw [← memB_iff]; simp
theorem has_names (names : List ByteArray) (s : ByteArray) : Maps.has (namesD names) (keyL s) = memB s names := by
  rw [namesD, Maps.has_setOf _ _ _ (namesD_keys names), Bool.eq_iff_iff, memB_iff]
  simp only [List.any_eq_true, List.mem_map]
  constructor
  · rintro ⟨x, ⟨a, ha, rfl⟩, h⟩
    rw [← keyL_inj (WideAt.sameKey_eq h)]; exact ha
  · intro h
    exact ⟨_, ⟨s, h, rfl⟩, WideAt.sameKey_self (keyL_key s)⟩
theorem tidy_names (names : List ByteArray) : Maps.Tidy (namesD names) := Maps.tidy_setOf _ _ (namesD_keys names)
theorem snoc_ind {α : Type} {p : List α → Prop} (h0 : p []) (h1 : ∀ l x, p l → p (l ++ [x])) (l : List α) : p l := by
  have : p l.reverse.reverse := by
    induction l.reverse with
    | nil => exact h0
    | cons x r ih => rw [List.reverse_cons]; exact h1 _ _ ih
  rwa [List.reverse_reverse] at this
theorem atKey_names (s : ByteArray) : ∀ names : List ByteArray, (s ∈ names → (namesD names).atKey (keyL s) .nil = .lit (.bool true)) ∧ (s ∉ names → (namesD names).atKey (keyL s) .nil = .nil) := by
  refine snoc_ind ⟨fun h => (by cases h), fun _ => rfl⟩ (fun l x ih => ?_)
  rw [namesD_snoc]
  by_cases hx : s = x
  · subst hx
    exact ⟨fun _ => Maps.atKey_put_same (tidy_names l).isMap (keyL_key s) _ _, fun h => absurd (by simp) h⟩
  · rw [Maps.atKey_put_other (fun e => hx (keyL_inj e))]
    exact ⟨fun h => ih.1 (by simpa [hx] using h), fun h => ih.2 (fun h2 => h (by simp [h2]))⟩
theorem size_names : ∀ names : List ByteArray, names.Nodup → Maps.size (namesD names) = names.length := by
  refine snoc_ind (fun _ => rfl) (fun l x ih h => ?_)
  have h2 := List.nodup_append.1 h
  rw [namesD_snoc, Maps.size_put (tidy_names l), has_names, if_neg (by rw [memB_not.2 (fun hx => h2.2.2 x hx x (by simp) rfl)]; exact Bool.false_ne_true), ih h2.1]
  simp

theorem law9 : Keyed Try.prog 9 := string_keyed Try.underlying9
theorem zero109 (w : World) : (zeroValue 109).run Try.prog w = .ok (.pointer none) w := by kernel_rfl

/-- The program's queue of number i, in block b: its configuration, the bodies that it keeps (from the floor 0 on), the names of its groups. -/
structure XQ (w : World) (T : Nat → Tag) (i b : Nat) (c : Conf) (bodies : List Value) (names : List ByteArray) : Prop where
  small : bodies.length ≤ 400
  nodup : names.Nodup
  mem : ∃ vB m n, Blk w T (.x i 0) b #[.int .i64 c.l, .int .i64 c.d, .int .i64 c.s, .int .i64 c.k, .int .i64 0, vB, .map (some m)] 88 ∧ Row w T (.x i 1) 9 1 vB bodies.length bodies ∧ T m = .x i 2 ∧ w.ownsMap Try.prog 9 ptrElem m n (namesD names)

theorem ownsMap_step {S : Tag → Prop} {w w' : World} {T T' : Nat → Tag} {P : Program} {k : TypeId} {R : Value → Option (DataW Unit × List MemPlace)} {b n : Nat} {D : DataW Unit} (h : w.ownsMap P k R b n D) (hs : Step S w T w' T') (ht : ¬ S (T b)) : w'.ownsMap P k R b n D := by
  have hlt := h.lt
  obtain ⟨es, clock, hb, F, hs2, hD⟩ := h
  exact ⟨es, clock, (hs.block b hlt ht).trans hb, F, hs2, hD⟩
theorem ownsMap_tight {w : World} {P : Program} {k : TypeId} {R : Value → Option (DataW Unit × List MemPlace)} {b n : Nat} {D : DataW Unit} (h : w.ownsMap P k R b n D) : w.ownsMap P k R b (Maps.size D) D := by
  obtain ⟨es, clock, hb, F, hs2, rfl⟩ := h
  refine ⟨es, clock, hb, F, ?_, rfl⟩
  simp [Maps.size, length_sorted]

theorem XQ.step {S : Tag → Prop} {w w' : World} {T T' : Nat → Tag} {i b : Nat} {c : Conf} {bodies : List Value} {names : List ByteArray} (h : XQ w T i b c bodies names) (hs : Step S w T w' T') (hS : ∀ r, ¬ S (.x i r)) : XQ w' T' i b c bodies names := by
  obtain ⟨h1, h2, vB, m, n, hB, hR, hT, hM⟩ := h
  exact ⟨h1, h2, vB, m, n, hB.step hs (hS _), hR.step hs (hS _), by rw [hs.tag m hM.lt]; exact hT, ownsMap_step hM hs (by rw [hT]; exact hS _)⟩

/-- 'm[k]' where the key is there -/
theorem wpList_lookup_yes {P : Program} (w : World) {ops : Array Oper} {rest : List Oper} {o : Oper} {a : Act} {Q : Exit → Act → World → Prop}
    (hg : o.guard = none) (m x : Operand) (t : TypeId) (hop : o.op = Op.lookup t m x false)
    (k e : TypeId) (K : Keyed P k) (ht : P.underlying t = some (.map k e)) (hz : (zeroValue e).run P w = .ok (.pointer none) w) (b n : Nat) (D : DataW Unit)
    (hm : a.eval m = .map (some b)) (hown : w.ownsMap P k ptrElem b n D) (key : Value) (kl : Lit) (hx : a.eval x = key) (hkey : keyOf P k key = some kl) (hat : D.atKey kl .nil = .lit (.bool true))
    (hK : ∀ p, wpList P ops Q rest (a.put o.dst (.pointer (some p))) w) :
    wpList P ops Q (o :: rest) a w := by
  refine wpList_plain hg fun K' hK' => ?_
  obtain ⟨v, ps, hrun, hv⟩ := hown.lookup K ht hz (zd := .nil) (zp := []) rfl hkey
  rw [hat] at hv
  obtain ⟨p, rfl⟩ := ptrElem_yes hv
  unfold Oper.wp
  simp [execOp, hop, hm, hx, hrun, Result.andThen]
  exact hK' _ _ (hK p)
/-- 'm[k]' where it is not -/
theorem wpList_lookup_no {P : Program} (w : World) {ops : Array Oper} {rest : List Oper} {o : Oper} {a : Act} {Q : Exit → Act → World → Prop}
    (hg : o.guard = none) (m x : Operand) (t : TypeId) (hop : o.op = Op.lookup t m x false)
    (k e : TypeId) (K : Keyed P k) (ht : P.underlying t = some (.map k e)) (hz : (zeroValue e).run P w = .ok (.pointer none) w) (b n : Nat) (D : DataW Unit)
    (hm : a.eval m = .map (some b)) (hown : w.ownsMap P k ptrElem b n D) (key : Value) (kl : Lit) (hx : a.eval x = key) (hkey : keyOf P k key = some kl) (hat : D.atKey kl .nil = .nil)
    (hK : wpList P ops Q rest (a.put o.dst (.pointer none)) w) :
    wpList P ops Q (o :: rest) a w := by
  refine wpList_plain hg fun K' hK' => ?_
  obtain ⟨v, ps, hrun, hv⟩ := hown.lookup K ht hz (zd := .nil) (zp := []) rfl hkey
  rw [hat] at hv
  obtain rfl := ptrElem_no hv
  unfold Oper.wp
  simp [execOp, hop, hm, hx, hrun, Result.andThen]
  exact hK' _ _ hK

attribute [local go_sem] over_cell

set_option maxHeartbeats 1000000 in
theorem xend_any (i b : Nat) (c : Conf) (bodies : List Value) (names : List ByteArray) (w : World) (T : Nat → Tag) (hx : XQ w T i b c bodies names) :
    Calls Try.prog 34 #[.pointer (some ⟨b, 0, none⟩)] w fun e w' => e = .returned (.int .i64 bodies.length) ∧ Below w.heap.size w w' := by
  obtain ⟨hs, _, vB, m, n, hB, hR, _, _⟩ := hx
  obtain ⟨ao, cap, rfl⟩ := row_form hR
  have hlt := hB.lt
  have c4 := hB.cell (j := 4) rfl
  have c5 := hB.cell (j := 5) rfl
  clear hB hR
  generalize bodies.length = N at *
  go_enter Try.func34, Try.ntmps34
  go_wp2_with fail
  refine wp_region_over (by kernel_rfl) (by kernel_rfl) ?_
  repeat (go_big_quiet_step (fail))
  refine wpQuiet_nil ?_
  rintro _ ⟨x, rfl⟩
  go_wp2
  go_ret
  exact ⟨by congr 2, over_below w x⟩

set_option maxHeartbeats 1000000 in
theorem xopen_any (c : Conf) (w : World) (T : Nat → Tag) (i : Nat) :
    Calls Try.prog 30 #[.agg c.cells, .string ⟨#[]⟩] w fun e w' => (goodC c = false ∧ e = .returned (.tuple #[.pointer none, .int .i64 1]) ∧ Below w.heap.size w w') ∨
      (goodC c = true ∧ ∃ b T', e = .returned (.tuple #[.pointer (some ⟨b, 0, none⟩), .int .i64 0]) ∧ Step (fun _ => False) w T w' T' ∧ w.heap.size ≤ b ∧ XQ w' T' i b c [] []) := by
  have hmm := @run_makeMap Try.prog
  go_enter Try.func30, Try.ntmps30
  go_wp2_with fail
  refine (isConfig_any c _).mono ?_
  rintro e w1 ⟨rfl, hb1⟩
  have q1 : ∀ j, w1.cell? ⟨w.heap.size, j, none⟩ = _ := fun j => hb1.cell (p := ⟨w.heap.size, j, none⟩) (by simp)
  have hz1 := hb1.size
  have f1 : Below w.heap.size w w1 := ((Below.refl _ _).alloc (Nat.le_refl _) _).trans (hb1.mono (by simp))
  cases h1 : goodC c
  · go_wp2
    go_ret2
    exact .inl ⟨h1, rfl, f1⟩
  · go_wp2
    go_ret2
    refine .inr ⟨h1, w1.heap.size + 1, retag (retag T w1.heap.size (.x i 2)) (w1.heap.size + 1) (.x i 0), rfl, ?_, by have := f1.size; omega, by simp, List.nodup_nil, .slice none 0 0, w1.heap.size, 0, ?_, row_nil _ _ _ _ _, ?_, ?_⟩
    · refine (step_below _ T f1).trans ((step_new w1 T (.map #[] 0) (.x i 2) _).trans ?_)
      have := step_new (w1.alloc (.map #[] 0)) (retag T w1.heap.size (.x i 2)) (.cells #[.int .i64 c.l, .int .i64 c.d, .int .i64 c.s, .int .i64 c.k, .int .i64 0, .slice none 0 0, .map (some w1.heap.size)] 88) (.x i 0) (fun _ => False)
      simpa using this
    · have := blk_new (w1.alloc (.map #[] 0)) (retag T w1.heap.size (.x i 2)) #[.int .i64 c.l, .int .i64 c.d, .int .i64 c.s, .int .i64 c.k, .int .i64 0, .slice none 0 0, .map (some w1.heap.size)] 88 (.x i 0)
      simpa using this
    · rw [retag_other _ _ _ (by omega), retag_same]
    · exact (World.ownsMap_made _ _ _ _).alloc _


set_option maxHeartbeats 1000000 in
theorem xspan_any (i b : Nat) (c : Conf) (bodies : List Value) (names : List ByteArray) (w : World) (T : Nat → Tag) (hx : XQ w T i b c bodies names) :
    Calls Try.prog 45 #[.pointer (some ⟨b, 0, none⟩)] w fun e w' => e = .returned (.agg #[.int .i64 0, .int .i64 bodies.length]) ∧ Below w.heap.size w w' := by
  have hx0 := hx
  obtain ⟨hs, _, vB, m, n, hB, hR, _, _⟩ := hx
  have hlt := hB.lt
  have c4 := hB.cell (j := 4) rfl
  clear hB hR
  go_enter Try.func45, Try.ntmps45
  go_wp2_with fail
  go_region_with (go_at_call 34; refine (xend_any i b c bodies names _ T ?_).mono ?_; (exact hx0.step (step_below (fun _ => False) T (((Below.refl _ _).alloc (Nat.le_refl _) _).trans (Below.refl _ _).drew)) (fun _ h => h)); rintro e w1 ⟨rfl, hb1⟩; have q1 := hb1.cell (p := ⟨b, 4, none⟩) (by simp; omega); have q2 := hb1.cell (p := ⟨w.heap.size, 0, none⟩) (by simp); have q3 := hb1.cell (p := ⟨w.heap.size, 1, none⟩) (by simp); have q4 := hb1.frozen (p := ⟨w.heap.size, 0, none⟩) (by simp); have q5 := hb1.frozen (p := ⟨w.heap.size, 1, none⟩) (by simp))
  all_goals
    go_wp2
    have hz1 := hb1.size
    simp at hz1
    have f0 : Below w.heap.size w w1 := ((Below.refl _ _).alloc (Nat.le_refl _) _).trans ((Below.refl _ _).drew.trans (hb1.mono (by simp)))
    refine bodyPost_ret (v := .agg #[.int .i64 0, .int .i64 bodies.length]) ?_ rfl ⟨rfl, (f0.setCell (p := ⟨w.heap.size, 0, none⟩) (Nat.le_refl _) _).setCell (p := ⟨w.heap.size, 1, none⟩) (Nat.le_refl _) _⟩
    simp [results, Try.results45, go_sem, q2, q3]

end Go.Proofs.Ytedbcmlekjagpaa

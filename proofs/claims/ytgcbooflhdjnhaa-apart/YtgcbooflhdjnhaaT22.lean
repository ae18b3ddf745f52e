/- The program's group and its queue in memory; contracts of its small methods: end, first, isDone, mark, lease, finish. -/
import Derived.Test.YtgcbooflhdjnhaaT21
import Derived.Test.YtgcbooflhdjnhaaT19
import Derived.Deep.RegionHeld3
namespace Go.Proofs.Ytgcbooflhdjnhaa
open Go.RowKit Go.Maps

/-- The group of number k of the queue of number i, in block gb. -/
def GM (w : World) (T : Nat → Tag) (i k gb : Nat) (p : PG) : Prop :=
  ∃ vD vE tb wb, Blk w T (.q i 3 k) gb #[.int .i64 p.start, vD, vE, .map (some tb), .map (some wb)] 131 ∧ Row w T (.q i 4 k) 31 2 vD p.done.length (flat p.done) ∧
    Row w T (.q i 5 k) 89 3 vE p.dead.length (dlVals p.dead) ∧ TM w T (.q i 6 k) tb p.tr ∧ WM w T (.q i 7 k) wb p.wt
/-- the blocks of that group -/
def SG (i k : Nat) (t : Tag) : Prop := ∃ r, 3 ≤ r ∧ t = .q i r k

theorem GM.step {S : Tag → Prop} {w w' : World} {T T' : Nat → Tag} {i k gb : Nat} {p : PG} (h : GM w T i k gb p) (hs : Step S w T w' T') (hS : ∀ r, 3 ≤ r → ¬ S (.q i r k)) : GM w' T' i k gb p := by
  obtain ⟨vD, vE, tb, wb, h1, h2, h3, h4, h5⟩ := h
  exact ⟨vD, vE, tb, wb, h1.step hs (hS 3 (by decide)), h2.step hs (hS 4 (by decide)), h3.step hs (hS 5 (by decide)), h4.step hs (hS 6 (by decide)), h5.step hs (hS 7 (by decide))⟩
theorem GM.lt {w : World} {T : Nat → Tag} {i k gb : Nat} {p : PG} (h : GM w T i k gb p) : gb < w.heap.size := by
  obtain ⟨_, _, _, _, h1, _⟩ := h
  exact h1.lt
theorem GM.start {w : World} {T : Nat → Tag} {i k gb : Nat} {p : PG} (h : GM w T i k gb p) : w.cell? ⟨gb, 0, none⟩ = some (.int .i64 p.start) := by
  obtain ⟨_, _, _, _, h1, _⟩ := h
  exact h1.cell (j := 0) rfl

/-- The program's queue of number i, in block b: it tells the document's queue m. -/
structure X (w : World) (T : Nat → Tag) (i b : Nat) (m : MQ) : Prop where
  small : m.bodies.length ≤ 400
  few : m.groups.length ≤ 6
  nodup : m.names.Nodup
  short : ∀ s ∈ m.names, s.size ≤ 16
  inv : ∀ g ∈ m.groups, InvG m g
  mem : ∃ (vB : Value) (mb : Nat) (f : Nat → Nat) (ps : Nat → PG), Blk w T (.q i 0 0) b #[.int .i64 m.c.l, .int .i64 m.c.d, .int .i64 m.c.s, .int .i64 m.c.k, .int .i64 m.time, .int .i64 m.floor, vB, .map (some mb)] 105 ∧
    Sub w T (.q i 1 0) vB ((m.bodies.drop m.floor.toNat).map .string) ∧ NM w T (.q i 2 0) mb m.names f ∧ ∀ k g, m.groups[k]? = some g → GM w T i k (f k) (ps k) ∧ RelG m g (ps k)

theorem X.step {S : Tag → Prop} {w w' : World} {T T' : Nat → Tag} {i b : Nat} {m : MQ} (h : X w T i b m) (hs : Step S w T w' T') (hS : ∀ t, XT i t → ¬ S t) : X w' T' i b m := by
  obtain ⟨h1, h2, h3, h4, h5, vB, mb, f, ps, hB, hR, hN, hG⟩ := h
  have hq : ∀ r k, ¬ S (.q i r k) := fun r k => hS _ ⟨rfl, rfl⟩
  exact ⟨h1, h2, h3, h4, h5, vB, mb, f, ps, hB.step hs (hq _ _), hR.step hs (hq _ _), hN.step hs (hq _ _), fun k g hg => ⟨(hG k g hg).1.step hs (fun r _ => hq _ _), (hG k g hg).2⟩⟩

/-! writes into the maps -/
theorem upd_same {α : Type} (f : Int → α) (n : Int) (v : α) : upd f n v n = v := by simp [upd]
theorem upd_other {α : Type} (f : Int → α) (n : Int) (v : α) {j : Int} (h : j ≠ n) : upd f n v j = f j := by simp [upd, h]
theorem isKeyI (n : Int) : WideAt.IsKeyLit (.int .i64 n) := trivial
theorem keyI {n : Nat} (hn : n < 400) : keyOf Try.prog 3 (.int .i64 n) = some (.int .i64 n) := keyOf_int_mk Try.underlying3 (wfI (n := (n : Int)) ⟨by omega, by omega⟩)

theorem WM.store {w : World} {T : Nat → Tag} {t : Tag} {b : Nat} {f : Int → Option (Int × Bool)} (h : WM w T t b f) {n : Nat} (hn : n < 400) (u : Int × Bool) :
    ∃ w', (Instr.mapUpdate 129 (.map (some b)) (.int .i64 n) (waitV u)).run Try.prog w = .ok () w' ∧ WM w' T t b (upd f n (some u)) ∧ Step (fun s => s = t) w T w' T := by
  obtain ⟨hT, D, hown, hhas, hat, hbd⟩ := h
  obtain ⟨w', hrun, hM, hg⟩ := hown.update law3 Try.underlying129 (by unfold maxLen; omega) (keyI hn) (waitElem_mk u)
  have hhas' : ∀ k, Maps.has (D.put (.int .i64 n) (waitD u)) (.int .i64 k) = (upd f n (some u) k).isSome := fun k => by
    by_cases hk : k = n
    · subst hk; rw [has_put_same hown.isMap (isKeyI _), upd_same]; rfl
    · rw [has_put_other (by simpa using hk), hhas, upd_other _ _ _ hk]
  have hbd' : ∀ k, (upd f n (some u) k).isSome = true → 0 ≤ k ∧ k < 400 := fun k hk => by
    by_cases hk2 : k = n
    · omega
    · rw [upd_other _ _ _ hk2] at hk; exact hbd k hk
  refine ⟨w', hrun, ⟨hT, _, ownsMap_few hM (fun x hx => hbd' x (by rw [← hhas']; exact hx)), hhas', fun k v hk z => ?_, hbd'⟩, step_grown hg (fun j hj => by cases hj; exact hT) (fun _ _ => rfl)⟩
  by_cases hk2 : k = n
  · subst hk2
    rw [upd_same] at hk
    cases hk
    exact atKey_put_same hown.isMap (isKeyI _) _ _
  · rw [atKey_put_other (by simpa using hk2)]
    rw [upd_other _ _ _ hk2] at hk
    exact hat k v hk z
theorem WM.drop {w : World} {T : Nat → Tag} {t : Tag} {b : Nat} {f : Int → Option (Int × Bool)} (h : WM w T t b f) {n : Nat} (hn : n < 400) (ty : TypeId) :
    ∃ w', (Builtin.delete_ #[129, 3] ty #[.map (some b), .int .i64 n]).run Try.prog w = .ok (.tuple #[]) w' ∧ WM w' T t b (upd f n none) ∧ Step (fun s => s = t) w T w' T := by
  obtain ⟨hT, D, hown, hhas, hat, hbd⟩ := h
  obtain ⟨w', hrun, hM, hg⟩ := hown.drop law3 Try.underlying129 (keyI hn) ty
  refine ⟨w', hrun, ⟨hT, _, hM, fun k => ?_, fun k v hk z => ?_, fun k hk => ?_⟩, step_grown hg.grown (fun j hj => by cases hj; exact hT) (fun _ _ => rfl)⟩
  · by_cases hk : k = n
    · subst hk; rw [has_del_same, upd_same]; rfl
    · rw [has_del_other (by simpa using hk), hhas, upd_other _ _ _ hk]
  · by_cases hk2 : k = n
    · subst hk2; rw [upd_same] at hk; cases hk
    · rw [atKey_del_other (by simpa using hk2)]
      rw [upd_other _ _ _ hk2] at hk
      exact hat k v hk z
  · by_cases hk2 : k = n
    · omega
    · rw [upd_other _ _ _ hk2] at hk; exact hbd k hk
theorem TM.store {w : World} {T : Nat → Tag} {t : Tag} {b : Nat} {f : Int → Int} (h : TM w T t b f) {n : Nat} (hn : n < 400) (u : Int) (hu : (Lit.int .i64 u).wf = true) :
    ∃ w', (Instr.mapUpdate 128 (.map (some b)) (.int .i64 n) (.int .i64 u)).run Try.prog w = .ok () w' ∧ TM w' T t b (upd f n u) ∧ Step (fun s => s = t) w T w' T := by
  obtain ⟨hT, D, hown, hat, hbd⟩ := h
  obtain ⟨w', hrun, hM, hg⟩ := hown.update law3 Try.underlying128 (by unfold maxLen; omega) (keyI hn) (plainElem_int Try.underlying3 hu)
  have hbd' : ∀ k, Maps.has (D.put (.int .i64 n) (.lit (.int .i64 u))) (.int .i64 k) = true → 0 ≤ k ∧ k < 400 := fun k hk => by
    by_cases hk2 : k = n
    · omega
    · rw [has_put_other (by simpa using hk2)] at hk; exact hbd k hk
  refine ⟨w', hrun, ⟨hT, _, ownsMap_few hM hbd', fun k => ?_, hbd'⟩, step_grown hg (fun j hj => by cases hj; exact hT) (fun _ _ => rfl)⟩
  by_cases hk2 : k = n
  · subst hk2
    rw [atKey_put_same hown.isMap (isKeyI _), upd_same]
  · rw [atKey_put_other (by simpa using hk2), upd_other _ _ _ hk2]
    exact hat k
theorem TM.drop {w : World} {T : Nat → Tag} {t : Tag} {b : Nat} {f : Int → Int} (h : TM w T t b f) {n : Nat} (hn : n < 400) (ty : TypeId) :
    ∃ w', (Builtin.delete_ #[128, 3] ty #[.map (some b), .int .i64 n]).run Try.prog w = .ok (.tuple #[]) w' ∧ TM w' T t b (upd f n 0) ∧ Step (fun s => s = t) w T w' T := by
  obtain ⟨hT, D, hown, hat, hbd⟩ := h
  obtain ⟨w', hrun, hM, hg⟩ := hown.drop law3 Try.underlying128 (keyI hn) ty
  refine ⟨w', hrun, ⟨hT, _, hM, fun k => ?_, fun k hk => ?_⟩, step_grown hg.grown (fun j hj => by cases hj; exact hT) (fun _ _ => rfl)⟩
  · by_cases hk2 : k = n
    · subst hk2; rw [atKey_del_same, upd_same]
    · rw [atKey_del_other (by simpa using hk2), upd_other _ _ _ hk2]; exact hat k
  · by_cases hk2 : k = n
    · omega
    · rw [has_del_other (by simpa using hk2)] at hk; exact hbd k hk

section
variable {w : World} {T : Nat → Tag} {t : Tag} {ops : Array Oper} {rest : List Oper} {o : Oper} {a : Act} {Q : Exit → Act → World → Prop}
theorem wpList_store_wait (hg : o.guard = none) (m x v : Operand) (hop : o.op = Op.mapUpdate 129 m x v) (b : Nat) (f : Int → Option (Int × Bool)) (hm : a.eval m = .map (some b)) (h : WM w T t b f) (n : Nat) (hn : n < 400) (hx : a.eval x = .int .i64 n) (u : Int × Bool) (hv : a.eval v = waitV u)
    (hK : ∀ w', WM w' T t b (upd f n (some u)) → Step (fun s => s = t) w T w' T → wpList Try.prog ops Q rest (a.put o.dst undef) w') : wpList Try.prog ops Q (o :: rest) a w := by
  refine wpList_plain hg fun K' hK' => ?_
  obtain ⟨w', hrun, r1, r2⟩ := h.store hn u
  unfold Oper.wp
  simp [execOp, hop, hm, hx, hv, hrun, Result.andThen]
  exact hK' _ _ (hK w' r1 r2)
theorem wpList_store_try (hg : o.guard = none) (m x v : Operand) (hop : o.op = Op.mapUpdate 128 m x v) (b : Nat) (f : Int → Int) (hm : a.eval m = .map (some b)) (h : TM w T t b f) (n : Nat) (hn : n < 400) (hx : a.eval x = .int .i64 n) (u : Int) (hu : (Lit.int .i64 u).wf = true) (hv : a.eval v = .int .i64 u)
    (hK : ∀ w', TM w' T t b (upd f n u) → Step (fun s => s = t) w T w' T → wpList Try.prog ops Q rest (a.put o.dst undef) w') : wpList Try.prog ops Q (o :: rest) a w := by
  refine wpList_plain hg fun K' hK' => ?_
  obtain ⟨w', hrun, r1, r2⟩ := h.store hn u hu
  unfold Oper.wp
  simp [execOp, hop, hm, hx, hv, hrun, Result.andThen]
  exact hK' _ _ (hK w' r1 r2)
theorem wpList_drop_wait (hg : o.guard = none) (m x : Operand) (hop : o.op = Op.call { callee := Callee.builtin Builtin.delete, args := #[m, x], argTypes := #[129, 3] }) (b : Nat) (f : Int → Option (Int × Bool)) (hm : a.eval m = .map (some b)) (h : WM w T t b f) (n : Nat) (hn : n < 400) (hx : a.eval x = .int .i64 n)
    (hK : ∀ w', WM w' T t b (upd f n none) → Step (fun s => s = t) w T w' T → wpList Try.prog ops Q rest (a.put o.dst (.tuple #[])) w') : wpList Try.prog ops Q (o :: rest) a w := by
  refine wpList_plain hg fun K' hK' => ?_
  obtain ⟨w', hrun, r1, r2⟩ := h.drop hn o.type
  unfold Oper.wp
  simp [execOp, hop, resolve, invoke, builtin, hm, hx, hrun, Result.andThen]
  exact hK' _ _ (hK w' r1 r2)
theorem wpList_drop_try (hg : o.guard = none) (m x : Operand) (hop : o.op = Op.call { callee := Callee.builtin Builtin.delete, args := #[m, x], argTypes := #[128, 3] }) (b : Nat) (f : Int → Int) (hm : a.eval m = .map (some b)) (h : TM w T t b f) (n : Nat) (hn : n < 400) (hx : a.eval x = .int .i64 n)
    (hK : ∀ w', TM w' T t b (upd f n 0) → Step (fun s => s = t) w T w' T → wpList Try.prog ops Q rest (a.put o.dst (.tuple #[])) w') : wpList Try.prog ops Q (o :: rest) a w := by
  refine wpList_plain hg fun K' hK' => ?_
  obtain ⟨w', hrun, r1, r2⟩ := h.drop hn o.type
  unfold Oper.wp
  simp [execOp, hop, resolve, invoke, builtin, hm, hx, hrun, Result.andThen]
  exact hK' _ _ (hK w' r1 r2)
end

attribute [local go_sem] over_cell

/-! the sets' functions over a row -/
set_option maxHeartbeats 400000 in
theorem has_nil (n : Int) (w : World) : Calls Try.prog 12 #[.slice none 0 0, .int .i64 n] w fun e w' => e = .returned (.tuple #[.bool false, .int .i64 0]) ∧ Below w.heap.size w w' := by
  go_enter Try.func12, Try.ntmps12
  go_wp2_with fail
  refine (isSet_empty none 0 _).mono ?_
  rintro e w0 ⟨rfl, hb0⟩
  rw [show setB [] = true from rfl]
  go_wp2
  refine wp_loop_rounds 1 ?_
  rw [rounds_succ]
  go_wp2
  go_ret2
  exact ⟨rfl, hb0⟩
set_option maxHeartbeats 400000 in
theorem gap_nil (n : Int) (w : World) (h0 : 0 ≤ n) (h1 : n ≤ 1099511627776) : Calls Try.prog 14 #[.slice none 0 0, .int .i64 n] w fun e w' => e = .returned (.tuple #[.int .i64 n, .int .i64 0]) ∧ Below w.heap.size w w' := by
  have q1 : ¬ n < 0 := by omega
  have q2 : ¬ 1099511627776 < n := by omega
  go_enter Try.func14, Try.ntmps14
  go_wp2_with fail
  refine (isSet_empty none 0 _).mono ?_
  rintro e w0 ⟨rfl, hb0⟩
  rw [show setB [] = true from rfl]
  go_wp2
  refine wp_loop_rounds 1 ?_
  rw [rounds_succ]
  go_wp2
  go_ret2
  exact ⟨rfl, hb0⟩

theorem row_two {w : World} {T : Nat → Tag} {t : Tag} {v : Value} {L : RL} (h : Row w T t 31 2 v L.length (flat L)) : (v = .slice none 0 0 ∧ L = []) ∨ ∃ g cap, v = .slice (some ⟨g, 0, none⟩) L.length cap ∧ Cells w g 0 L ∧ L.length ≤ cap := by
  rcases h.1.2 with ⟨h1, h2⟩ | ⟨g, cap, cur, rfl, hb, hg, h3, h4, h5, h6⟩
  · refine .inl ⟨h1, List.eq_nil_of_length_eq_zero ?_⟩
    first | exact h2 | (have := congrArg List.length h2; simpa [flat_length] using this) | omega
  · exact .inr ⟨g, cap, rfl, cells_of_own h.1, by omega⟩

theorem has_row {w : World} {T : Nat → Tag} {t : Tag} {v : Value} {L : RL} (n : Int) (h : Row w T t 31 2 v L.length (flat L)) (hs : setB L = true) :
    Calls Try.prog 12 #[v, .int .i64 n] w fun e w' => e = .returned (.tuple #[.bool (hasB L n), .int .i64 0]) ∧ Below w.heap.size w w' := by
  rcases row_two h with ⟨rfl, rfl⟩ | ⟨g, cap, rfl, hc, _⟩
  · exact (has_nil n w).mono fun e w' ⟨h1, h2⟩ => ⟨h1.trans (by simp [hasB]), h2⟩
  · refine (has_cells L n g 0 cap w hc (by have := setB_len hs; omega)).mono fun e w' ⟨h1, h2⟩ => ⟨h1.trans ?_, h2⟩
    rw [hs]
    rfl
theorem gap_row {w : World} {T : Nat → Tag} {t : Tag} {v : Value} {L : RL} (n : Int) (h : Row w T t 31 2 v L.length (flat L)) (hs : setB L = true) (h0 : 0 ≤ n) (h1 : n ≤ 1099511627776) :
    Calls Try.prog 14 #[v, .int .i64 n] w fun e w' => e = .returned (.tuple #[.int .i64 (gapI L n), .int .i64 0]) ∧ Below w.heap.size w w' := by
  rcases row_two h with ⟨rfl, rfl⟩ | ⟨g, cap, rfl, hc, _⟩
  · exact (gap_nil n w h0 h1).mono fun e w' ⟨h1, h2⟩ => ⟨h1.trans (by simp [gapI]), h2⟩
  · have hf : fromOk n = true := by simp [fromOk]; omega
    refine (gap_cells L n g 0 cap w hc (by have := setB_len hs; omega)).mono fun e w' ⟨h1, h2⟩ => ⟨h1.trans ?_, h2⟩
    rw [gapV_yes (by rw [hs, hf]; rfl), hs, hf]
    rfl
theorem add_row {w : World} {T : Nat → Tag} {t : Tag} {v : Value} {L : RL} (a b : Int) (h : Row w T t 31 2 v L.length (flat L)) (hs : setB L = true) (hr : isR a b = true) :
    Calls Try.prog 23 #[v, .agg #[.int .i64 a, .int .i64 b]] w fun e w' => ∃ g cap, e = .returned (.tuple #[.slice (some ⟨g, 0, none⟩) (addTo L a b).length cap, .int .i64 0]) ∧
      w'.ownsRow w.heap.size 31 2 (.slice (some ⟨g, 0, none⟩) (addTo L a b).length cap) (addTo L a b).length (flat (addTo L a b)) ∧ Below w.heap.size w w' := by
  rcases row_two h with ⟨rfl, rfl⟩ | ⟨g, cap, rfl, hc, hcap⟩
  · refine (add_nil a b w hr).mono fun e w' ⟨g, h1, h2, h3⟩ => ⟨g, 1, h1, h2, h3⟩
  · exact (add_yes L a b g 0 cap w hc (by have := setB_len hs; omega) hcap hs hr).mono fun e w' ⟨g, h1, h2, h3⟩ => ⟨g, _, h1, h2, h3⟩

/-! the queue's small methods, over its cells -/
set_option maxHeartbeats 1000000 in
theorem qend_any (b : Nat) (fl : Int) (ao : Option Addr) (n cap : Nat) (w : World) (hlt : b < w.heap.size) (c5 : w.cell? ⟨b, 5, none⟩ = some (.int .i64 fl)) (c6 : w.cell? ⟨b, 6, none⟩ = some (.slice ao n cap)) (h0 : 0 ≤ fl) (h1 : fl ≤ 400) (h2 : n ≤ 400) :
    Calls Try.prog 42 #[.pointer (some ⟨b, 0, none⟩)] w fun e w' => e = .returned (.int .i64 (fl + n)) ∧ Below w.heap.size w w' := by
  go_enter Try.func42, Try.ntmps42
  go_wp2_with fail
  refine wp_region_over (by kernel_rfl) (by kernel_rfl) ?_
  repeat (go_big_quiet_step (fail))
  refine wpQuiet_nil ?_
  rintro _ ⟨x, rfl⟩
  go_wp2
  go_ret
  exact ⟨by first | rfl | congr 2, over_below w x⟩

set_option maxHeartbeats 1000000 in
theorem qfirst_any (b gb : Nat) (fl st : Int) (w : World) (hlt : b < w.heap.size) (hlg : gb < w.heap.size) (c5 : w.cell? ⟨b, 5, none⟩ = some (.int .i64 fl)) (d0 : w.cell? ⟨gb, 0, none⟩ = some (.int .i64 st)) :
    Calls Try.prog 107 #[.pointer (some ⟨b, 0, none⟩), .pointer (some ⟨gb, 0, none⟩)] w fun e w' => e = .returned (.int .i64 (max fl st)) ∧ Below w.heap.size w w' := by
  go_enter Try.func107, Try.ntmps107
  go_wp2_with fail
  refine wp_region_over (by kernel_rfl) (by kernel_rfl) ?_
  repeat (go_big_quiet_step (fail))
  refine wpQuiet_nil ?_
  rintro _ ⟨x, rfl⟩
  go_wp2
  · go_ret
    exact ⟨by rw [show max fl st = st by omega]; rfl, over_below w x⟩
  · go_ret
    exact ⟨by rw [show max fl st = fl by omega]; rfl, over_below w x⟩

set_option maxHeartbeats 1000000 in
theorem isDone_any (i k gb : Nat) (p : PG) (n : Int) (w : World) (T : Nat → Tag) (h : GM w T i k gb p) (hs : setB p.done = true) :
    Calls Try.prog 108 #[.pointer (some ⟨gb, 0, none⟩), .int .i64 n] w fun e w' => e = .returned (.bool (hasB p.done n)) ∧ Below w.heap.size w w' := by
  obtain ⟨vD, vE, tb, wb, hB, hD, hE, hT, hW⟩ := h
  obtain ⟨ao, cap, rfl⟩ := row_form hD
  have l1 := hB.lt
  have c1 := hB.cell (j := 1) rfl
  simp only [List.getElem_toArray, List.getElem_cons_succ, List.getElem_cons_zero] at c1
  clear hB
  go_enter Try.func108, Try.ntmps108
  go_wp2_with fail
  refine (has_row n hD hs).mono ?_
  rintro e w1 ⟨rfl, hb⟩
  go_wp2
  go_ret
  exact ⟨by first | rfl | simp, by first | exact hb | exact hb.alloc hb.size _⟩

set_option maxHeartbeats 1000000 in
theorem lease_any (i k gb : Nat) (p : PG) (n : Nat) (u : Int) (w : World) (T : Nat → Tag) (h : GM w T i k gb p) (hn : n < 400) :
    Calls Try.prog 106 #[.pointer (some ⟨gb, 0, none⟩), .int .i64 n, .int .i64 u] w fun e w' => e = .returned (.tuple #[]) ∧ ∃ T', Step (SG i k) w T w' T' ∧ GM w' T' i k gb (leaseP p n u) := by
  obtain ⟨vD, vE, tb, wb, hB, hD, hE, hT, hW⟩ := h
  have l1 := hB.lt
  have c4 := hB.cell (j := 4) rfl
  simp only [List.getElem_toArray, List.getElem_cons_succ, List.getElem_cons_zero] at c4
  go_enter Try.func106, Try.ntmps106
  go_wp2_with (first
    | (at_mapUpdate; refine wpList_store_wait rfl _ _ _ rfl wb _ rfl hW n hn rfl (u, true) rfl ?_; intro w3 hM3 hs3)
    | go_in)
  go_end0
  have hs4 : Step (SG i k) w T w3 T := hs3.mono (fun t ht => ⟨7, by decide, ht⟩)
  exact ⟨rfl, T, hs4, vD, vE, tb, wb, hB.step hs3 (by simp), hD.step hs3 (by simp), hE.step hs3 (by simp), hT.step hs3 (by simp), hM3⟩

set_option maxRecDepth 100000 in
set_option maxHeartbeats 1000000 in
theorem finish_any (i k gb : Nat) (p : PG) (n : Nat) (w : World) (T : Nat → Tag) (h : GM w T i k gb p) (hs : setB p.done = true) (hn : n < 400) :
    Calls Try.prog 103 #[.pointer (some ⟨gb, 0, none⟩), .int .i64 n] w fun e w' => e = .returned (.tuple #[]) ∧ ∃ T', Step (SG i k) w T w' T' ∧ GM w' T' i k gb (finishP p n) := by
  obtain ⟨vD, vE, tb, wb, hB, hD, hE, hT, hW⟩ := h
  obtain ⟨ao, cap, rfl⟩ := row_form hD
  have l1 := hB.lt
  have c1 := hB.cell (j := 1) rfl
  simp only [List.getElem_toArray, List.getElem_cons_succ, List.getElem_cons_zero] at c1
  go_enter Try.func103, Try.ntmps103
  go_wp2_with fail
  refine (add_row n n hD hs (isR_one hn)).mono ?_
  rintro e w1 ⟨g, cap1, rfl, hown, hb1⟩
  obtain ⟨T1, hs1, hD1⟩ := own_row hb1 hown T (.q i 4 k)
  have hB1 := hB.step hs1 (fun h => h)
  have hE1 := hE.step hs1 (fun h => h)
  have hT1 := hT.step hs1 (fun h => h)
  have hW1 := hW.step hs1 (fun h => h)
  have l2 := hB1.lt
  have d1 := hB1.cell (j := 1) rfl
  have f1 := hB1.frozen 1
  simp only [List.getElem_toArray, List.getElem_cons_succ, List.getElem_cons_zero] at d1
  have hs2 : Step (fun t => t = .q i 3 k) w1 T1 (w1.setCell ⟨gb, 1, none⟩ (.slice (some ⟨g, 0, none⟩) (addTo p.done n n).length cap1)) T1 := step_setCell _ _ _ _ _ hB1.1
  have hB2 := hB1.set 1 (.slice (some ⟨g, 0, none⟩) (addTo p.done n n).length cap1)
  have hD2 := hD1.step hs2 (by simp)
  have hE2 := hE1.step hs2 (by simp)
  have hT2 := hT1.step hs2 (by simp)
  have hW2 := hW1.step hs2 (by simp)
  have hs12 : Step (SG i k) w T (w1.setCell ⟨gb, 1, none⟩ (.slice (some ⟨g, 0, none⟩) (addTo p.done n n).length cap1)) T1 := (hs1.mono (fun _ h => h.elim)).trans (hs2.mono (fun t ht => ⟨3, by decide, ht⟩))
  have d3 := hB2.cell (j := 3) (v := .map (some tb)) (by simp)
  have l3 := hB2.lt
  clear hB hD hE hT hW hB1 hD1 hE1 hT1 hW1 hs1 hs2 hb1 hown c1
  go_wp2_with (first
    | (at_delete; refine wpList_drop_try rfl _ _ rfl tb _ rfl hT2 n hn rfl ?_; intro w3 hT3 hs3; have hB3 := hB2.step hs3 (by simp); have l4 := hB3.lt; have e4 := hB3.cell (j := 4) (v := .map (some wb)) (by simp); have hW3 := hW2.step hs3 (by simp))
    | (at_delete; refine wpList_drop_wait rfl _ _ rfl wb _ rfl hW3 n hn rfl ?_; intro w4 hW4 hs4)
    | go_in)
  go_end0
  refine ⟨rfl, T1, hs12.trans ((hs3.mono (fun t ht => ⟨6, by decide, ht⟩)).trans (hs4.mono (fun t ht => ⟨7, by decide, ht⟩))), _, vE, tb, wb, ?_, (hD2.step hs3 (by simp)).step hs4 (by simp), (hE2.step hs3 (by simp)).step hs4 (by simp), hT3.step hs4 (by simp), hW4⟩
  simpa [finishP] using hB3.step hs4 (by simp)

end Go.Proofs.Ytgcbooflhdjnhaa

/- Contracts of the program's wake (through maps.DeleteFunc), mark, receipt, delivery and newGroup. -/
namespace Go.Proofs.Ytgcbooflhdjnhaa
open Go.RowKit Go.Maps

attribute [local go_sem] over_cell

set_option maxHeartbeats 1000000 in
theorem wake1_any (n : Int) (u : Int × Bool) (nb : Nat) (now : Int) (w : World) (hlt : nb < w.heap.size) (hc : w.cell? ⟨nb, 0, none⟩ = some (.int .i64 now)) :
    Calls Try.prog 111 #[.int .i64 n, waitV u, .pointer (some ⟨nb, 0, none⟩)] w fun e w' => e = .returned (.bool (decide (u.1 ≤ now))) ∧ Below w.heap.size w w' := by
  go_enter Try.func111, Try.ntmps111
  go_wp2
  go_ret
  exact ⟨by first | rfl | simp, (Below.refl _ _).alloc (Nat.le_refl _) _⟩

/-- what the map holds while it is gone through: those to come are as they were, of the others those that still wait -/
def keptO (f : Int → Option (Int × Bool)) (now : Int) (left : Lit → Bool) (k : Int) : Option (Int × Bool) := bif left (.int .i64 k) then f k else (f k).filter (fun u => decide (now < u.1))
def Holds (D : DataW Unit) (f : Int → Option (Int × Bool)) (now : Int) (left : Lit → Bool) : Prop :=
  ∀ k, Maps.has D (.int .i64 k) = (keptO f now left k).isSome ∧ ∀ u, keptO f now left k = some u → ∀ z, D.atKey (.int .i64 k) z = waitD u

theorem same_int (a b : Int) (h : a ≠ b) : (Lit.int .i64 a).sameKey (.int .i64 b) = false := sameKey_ne (by simpa using h)
theorem same_int_self (a : Int) : (Lit.int .i64 a).sameKey (.int .i64 a) = true := WideAt.sameKey_self trivial

theorem Holds.found {D : DataW Unit} {f : Int → Option (Int × Bool)} {now : Int} {left : Lit → Bool} (h : Holds D f now left) {x : Int} {u : Int × Bool} (hl : left (.int .i64 x) = true) (hat : ∀ z, D.atKey (.int .i64 x) z = waitD u) : f x = some u := by
  have h1 := has_true_of_atKey hat
  obtain ⟨h2, h3⟩ := h x
  have e : keptO f now left x = f x := by simp [keptO, hl]
  rw [e] at h2 h3
  rw [h1] at h2
  cases hf : f x with
  | none => rw [hf] at h2; cases h2
  | some v =>
    have := (h3 v hf .nil).symm.trans (hat .nil)
    rw [waitD_inj this]
theorem Holds.stays {D : DataW Unit} {f : Int → Option (Int × Bool)} {now : Int} {left : Lit → Bool} (h : Holds D f now left) {x : Int} {u : Int × Bool} (hl : left (.int .i64 x) = true) (hf : f x = some u) (hu : now < u.1) : Holds D f now (fun z => left z && !z.sameKey (.int .i64 x)) := by
  intro k
  have e : keptO f now (fun z => left z && !z.sameKey (.int .i64 x)) k = keptO f now left k := by
    by_cases hk : k = x
    · subst hk; simp [keptO, same_int_self, hl, hf, hu]
    · simp [keptO, same_int k x hk]
  rw [e]
  exact h k
theorem Holds.struck {D : DataW Unit} {f : Int → Option (Int × Bool)} {now : Int} {left : Lit → Bool} (h : Holds D f now left) {x : Int} {u : Int × Bool} (hf : f x = some u) (hu : ¬ now < u.1) : Holds (D.del (.int .i64 x)) f now (fun z => left z && !z.sameKey (.int .i64 x)) := by
  intro k
  by_cases hk : k = x
  · subst hk
    have e : keptO f now (fun z => left z && !z.sameKey (.int .i64 k)) k = none := by simp [keptO, same_int_self, hf]; omega
    rw [e, has_del_same]
    exact ⟨rfl, fun u hu => by cases hu⟩
  · have e : keptO f now (fun z => left z && !z.sameKey (.int .i64 x)) k = keptO f now left k := by simp [keptO, same_int k x hk]
    rw [e, has_del_other (by simpa using hk)]
    refine ⟨(h k).1, fun u hu z => ?_⟩
    rw [atKey_del_other (by simpa using hk)]
    exact (h k).2 u hu z

theorem invK_int : ∀ key kl, keyOf Try.prog 3 key = some kl → ∃ x : Int, key = .int .i64 x := fun _ _ h => by
  obtain ⟨x, e, _⟩ := keyOf_int_inv Try.underlying3 h
  exact ⟨x, e⟩
theorem invV_wait : ∀ v (y : DataW Unit × List MemPlace), waitElem v = some y → ∃ u, v = waitV u := fun _ _ h => by
  obtain ⟨u, e, _⟩ := waitElem_inv h
  exact ⟨u, e⟩

def WaitIs (D : DataW Unit) (x u : Int) (lv : Value) : Prop := ∃ l, lv = .bool l ∧ ∀ z, D.atKey (.int .i64 x) z = waitD (u, l)
/-- the step of the loop over the map of waits -/
theorem wpList_next_waits (w : World) {ops : Array Oper} {rest : List Oper} {o : Oper} {a : Act} {Q : Exit → Act → World → Prop} (hg : o.guard = none) (it : Operand) (hop : o.op = Op.next it false) (b r n : Nat) (D : DataW Unit) (left : Lit → Bool) (cnt : Nat)
    (hit : a.eval it = .pointer (some ⟨r, 0, none⟩)) (h : w.ranges Try.prog 3 waitElem b r n D left cnt)
    (hDone : cnt = 0 → (∀ kl, left kl = false) → wpList Try.prog ops Q rest (a.put o.dst (.tuple #[.bool false])) w)
    (hMore : ∀ (x u : Int) (lv : Value) (w' : World) (cnt' : Nat), WaitIs D x u lv → Hid ((Lit.int .i64 x).wf = true) → Hid (left (.int .i64 x) = true) → w'.ranges Try.prog 3 waitElem b r n D (fun z => left z && !z.sameKey (.int .i64 x)) cnt' → cnt' < cnt →
      w.grownBy w' (some r) → w'.heap.size = w.heap.size → (Instr.entry (.pointer (some ⟨r, 0, none⟩))).run Try.prog w' = .ok (.tuple #[.int .i64 x, .agg #[.int .i64 u, lv]]) w' → wpList Try.prog ops Q rest (a.put o.dst (.tuple #[.bool true, .int .i64 x, .agg #[.int .i64 u, lv]])) w') :
    wpList Try.prog ops Q (o :: rest) a w := by
  refine wpList_next_ranges _ hg it hop 3 law3 waitElem (Value.int .i64) waitV invK_int invV_wait b r n D left cnt hit h hDone ?_
  intro x c kl y w1 cnt1 hkey hlx hv hat1 hrg1 hlt hg1 hs1 hen
  obtain ⟨x', ex, rfl, hwx⟩ := keyOf_int_inv Try.underlying3 hkey
  cases ex
  obtain ⟨⟨u', l'⟩, ec, rfl⟩ := waitElem_inv hv
  obtain ⟨u, l⟩ := c
  have e : u = u' ∧ l = l' := by simpa using ec
  obtain ⟨rfl, rfl⟩ := e
  exact hMore x u (.bool l) w1 cnt1 ⟨l, rfl, hat1⟩ (hide hwx) (hide hlx) hrg1 hlt hg1 hs1 hen

set_option maxRecDepth 100000 in
set_option maxHeartbeats 2000000 in
theorem delFunc_any (t : Tag) (wb nb : Nat) (f : Int → Option (Int × Bool)) (now : Int) (w : World) (T : Nat → Tag) (h : WM w T t wb f) (hn : nb < w.heap.size) (hc : w.cell? ⟨nb, 0, none⟩ = some (.int .i64 now)) :
    Calls Try.prog 110 #[.map (some wb), .func (.func 111) #[] #[.pointer (some ⟨nb, 0, none⟩)]] w fun e w' => e = .returned (.tuple #[]) ∧
      WM w' T t wb (fun j => (f j).filter (fun u => decide (now < u.1))) ∧ Step (fun s => s = t) w T w' T := by
  obtain ⟨hT, D, hown, hhas, hat, hbd⟩ := h
  have hne : nb ≠ wb := fun e => by
    subst e
    obtain ⟨es, clock, hb, _⟩ := hown
    simp [World.cell?, hb] at hc
  go_enter Try.func110, Try.ntmps110
  go_wp2_with (first
    | (at_range; refine wpList_range_own _ rfl _ 129 rfl 3 158 law3 Try.underlying129 _ wb 400 _ rfl hown ?_; intro w0 hrg0 hg0 hs0)
    | go_in)
  go_frame
  go_loopw [4] (fun _ wr => ∃ (left : Lit → Bool) (cnt : Nat) (D' : DataW Unit), wr.ranges Try.prog 3 waitElem wb w.heap.size 400 D' left cnt ∧ w.grownBy wr (some wb) ∧ Holds D' f now left) (fun _ wr => wr.rangeLeft wb w.heap.size)
  case atStart =>
    refine ⟨_, _, D, hrg0, hg0.but _, fun k => ?_⟩
    cases hf : f k with
    | none =>
      have e : keptO f now (Maps.has D) k = none := by simp [keptO, hhas, hf]
      rw [e, hhas, hf]
      exact ⟨rfl, fun u hu => by cases hu⟩
    | some u =>
      have e : keptO f now (Maps.has D) k = some u := by simp [keptO, hhas, hf]
      rw [e, hhas, hf]
      exact ⟨rfl, fun v hv => by cases hv; exact hat k u hf⟩
  case round =>
    obtain ⟨left, cnt, D', hrg, hgw, hH⟩ := hrel
    clear hrg0 hg0 hs0
    go_wp2_with (first
      | (at_next; refine wpList_next_waits _ rfl _ rfl wb w.heap.size 400 _ _ _ rfl hrg ?_ ?_)
      | go_in)
    · intro _ hl0
      go_wp2
      go_end0
      refine ⟨rfl, ⟨hT, D', hrg.owns, fun k => ?_, fun k u hu z => ?_, fun k hk => ?_⟩, step_grown hgw (fun j hj => by cases hj; exact hT) (fun _ _ => rfl)⟩
      · rw [(hH k).1]; simp [keptO, hl0]
      · exact (hH k).2 u (by simpa [keptO, hl0] using hu) z
      · refine hbd k ?_
        cases hf : f k with
        | none => simp [hf] at hk
        | some u => rfl
    · intro x cu lv w1 cnt1 hlv hwx hlx hrg1 hlt hg1 hs1 hen
      obtain ⟨cl, rfl, hat1⟩ := hlv
      have hfx := hH.found hlx.out hat1
      have hgw1 := hgw.andThen hg1 (fun j hj => by cases hj; exact Or.inl (Nat.le_refl _))
      have hn1 : nb < w1.heap.size := Nat.lt_of_lt_of_le hn hgw1.size
      have hc1 : w1.cell? ⟨nb, 0, none⟩ = some (.int .i64 now) := (World.cell?_of_block (w := w) (hgw1.block nb hn (by simpa using hne))).trans hc
      clear hat1
      go_wp2_with fail
      refine (wake1_any x (cu, cl) nb now _ (by simp; omega) ?_).mono ?_
      · first
          | exact (World.cell?_of_block (w := w1) (Below.heap_alloc _ _ _ hn1)).trans hc1
          | (rw [World.cell?_setCell_ne, World.cell?_of_block (w := w1) (Below.heap_alloc _ _ _ hn1)]; exact hc1)
      rintro e w2 ⟨rfl, hb2⟩
      have hbb : Below w1.heap.size w1 w2 := ((Below.refl _ _).alloc (Nat.le_refl _) _).trans (hb2.mono (by simp))
      have hrg2 := hrg1.kept (grown_of_below hbb) (by simp) (by simp)
      have hgw2 := hgw1.andThen (grown_of_below hbb) (fun j hj => by cases hj)
      by_cases hcu : cu ≤ now
      · go_wp2_with (first
          | (at_delete; refine wpList_delete_ranges _ rfl _ _ 129 3 rfl 158 law3 Try.underlying129 _ wb w.heap.size 400 _ _ _ rfl hrg2 _ _ rfl (keyOf_int_mk Try.underlying3 hwx.out) ?_; intro w3 cnt3 hrg3 hle hturn; go_frame)
          | go_in)
        rw [strike_twice] at hrg3
        go_roundw
        case rel => exact ⟨_, cnt3, _, hrg3, hgw2.andThen hturn.grown (fun j hj => by cases hj; exact Or.inr rfl), hH.struck hfx (by simp; omega)⟩
        case measure => rw [hrg3.left_eq, hrg.left_eq]; omega
      · go_wp2
        go_roundw
        case rel => exact ⟨_, cnt1, _, hrg2, hgw2, hH.stays hlx.out hfx (by simp; omega)⟩
        case measure => rw [hrg2.left_eq, hrg.left_eq]; exact hlt

set_option maxHeartbeats 1000000 in
theorem wake_any (i k gb : Nat) (p : PG) (now : Int) (w : World) (T : Nat → Tag) (h : GM w T i k gb p) :
    Calls Try.prog 104 #[.pointer (some ⟨gb, 0, none⟩), .int .i64 now] w fun e w' => e = .returned (.tuple #[]) ∧ ∃ T', Step (SG i k) w T w' T' ∧ GM w' T' i k gb (wakeP p now) := by
  obtain ⟨vD, vE, tb, wb, hB, hD, hE, hT, hW⟩ := h
  have l1 := hB.lt
  have c4 := hB.cell (j := 4) rfl
  simp only [List.getElem_toArray, List.getElem_cons_succ, List.getElem_cons_zero] at c4
  have a1 := step_new w T (.cells #[.int .i64 now] 3) .free (fun _ => False)
  have hN := blk_new w T #[.int .i64 now] 3 .free
  go_enter Try.func104, Try.ntmps104
  go_wp2_with fail
  refine (delFunc_any (.q i 7 k) wb w.heap.size p.wt now _ _ (hW.step a1 (fun h => h)) hN.lt (hN.cell (j := 0) rfl)).mono ?_
  rintro e w1 ⟨rfl, hW1, hs1⟩
  go_wp2
  go_end0
  exact ⟨rfl, _, (a1.mono (fun _ h => h.elim)).trans (hs1.mono (fun t ht => ⟨7, by decide, ht⟩)), vD, vE, tb, wb, (hB.step a1 (fun h => h)).step hs1 (by simp), (hD.step a1 (fun h => h)).step hs1 (by simp), (hE.step a1 (fun h => h)).step hs1 (by simp), (hT.step a1 (fun h => h)).step hs1 (by simp), hW1⟩

set_option maxHeartbeats 1000000 in
theorem mark_any (i k gb : Nat) (p : PG) (w : World) (T : Nat → Tag) (h : GM w T i k gb p) (hs : setB p.done = true) (h0 : 0 ≤ p.start) (h1 : p.start ≤ 400) :
    Calls Try.prog 89 #[.pointer (some ⟨gb, 0, none⟩)] w fun e w' => e = .returned (.int .i64 (gapI p.done p.start)) ∧ Below w.heap.size w w' := by
  obtain ⟨vD, vE, tb, wb, hB, hD, hE, hT, hW⟩ := h
  obtain ⟨ao, cap, rfl⟩ := row_form hD
  have l1 := hB.lt
  have c0 := hB.cell (j := 0) rfl
  have c1 := hB.cell (j := 1) rfl
  simp only [List.getElem_toArray, List.getElem_cons_succ, List.getElem_cons_zero] at c0 c1
  go_enter Try.func89, Try.ntmps89
  go_wp2_with fail
  refine wp_region_over (by kernel_rfl) (by kernel_rfl) ?_
  repeat (go_big_quiet_step ((go_at_call 14; exact quiet_over_at (gap_row p.start (hD.step (step_below (fun _ => False) T (over_below _ _)) (fun h => h)) hs h0 (by omega)))))
  refine wpQuiet_nil ?_
  rintro _ ⟨x, rfl⟩
  go_wp2
  go_ret
  exact ⟨by first | rfl | simp, over_below w x⟩

end Go.Proofs.Ytgcbooflhdjnhaa

/- Contracts of the program's receipt, delivery and newGroup. -/
namespace Go.Proofs.Ytgcbooflhdjnhaa
open Go.RowKit Go.Maps

attribute [local go_sem] over_cell

theorem TM.look {w : World} {T : Nat → Tag} {t : Tag} {b : Nat} {f : Int → Int} (h : TM w T t b f) {n : Int} (hn : i64 n) : (Instr.lookup 128 (.map (some b)) (.int .i64 n) false).run Try.prog w = .ok (.int .i64 (f n)) w := by
  obtain ⟨_, D, hown, hat, _⟩ := h
  obtain ⟨c, hrun, hc, _⟩ := hown.lookup_int law3 Try.underlying128 Try.underlying3 (zeroI _) (keyOf_int_mk Try.underlying3 (wfI hn))
  rw [hat n] at hc
  have : f n = c := by simpa using hc
  rw [this]; exact hrun

theorem fld_wait (u : Int) (l : Bool) (w : World) : (Instr.field 158 (.agg #[.int .i64 u, .bool l]) 1).run Try.prog w = .ok (.bool l) w := by kernel_rfl
/-- what receipt finds -/
def receiptE (fl : Int) (n : Nat) (p : PG) (off tr : Int) : Int :=
  bif btw off (max fl p.start) (fl + n - 1) then (bif ((p.wt off).getD (0, false)).2 && decide (p.tr off = tr) then 0 else 12) else 9

set_option maxRecDepth 100000 in
set_option maxHeartbeats 1000000 in
theorem receipt_any (i k b gb : Nat) (p : PG) (off tr fl : Int) (ao : Option Addr) (n cap : Nat) (w : World) (T : Nat → Tag) (h : GM w T i k gb p) (hlt : b < w.heap.size) (c5 : w.cell? ⟨b, 5, none⟩ = some (.int .i64 fl)) (c6 : w.cell? ⟨b, 6, none⟩ = some (.slice ao n cap))
    (h0 : 0 ≤ fl) (h1 : fl + n ≤ 400) :
    Calls Try.prog 102 #[.pointer (some ⟨b, 0, none⟩), .pointer (some ⟨gb, 0, none⟩), .int .i64 off, .int .i64 tr] w fun e w' => e = .returned (.int .i64 (receiptE fl n p off tr)) ∧ Below w.heap.size w w' := by
  go_enter Try.func102, Try.ntmps102
  go_wp2_with fail
  refine (qfirst_any b gb fl p.start w hlt h.lt c5 h.start).mono ?_
  rintro e w1 ⟨rfl, hb1⟩
  have l1 := Nat.lt_of_lt_of_le hlt hb1.size
  go_wp2_with fail
  refine (qend_any b fl ao n cap w1 l1 ((hb1.cell (p := ⟨b, 5, none⟩) hlt).trans c5) ((hb1.cell (p := ⟨b, 6, none⟩) hlt).trans c6) h0 (by omega) (by omega)).mono ?_
  rintro e w2 ⟨rfl, hb2⟩
  go_wp2_with fail
  refine (between_any _ _ _ _).mono ?_
  rintro e w3 ⟨rfl, hb3⟩
  have hb : Below w.heap.size w w3 := (hb1.trans (hb2.mono hb1.size)).trans (hb3.mono (Nat.le_trans hb1.size hb2.size))
  have h3 := h.step (step_below (fun _ => False) T hb) (fun _ _ h => h)
  clear hb1 hb2 hb3 c5 c6 hlt l1
  cases hx : btw off (max fl p.start) (fl + n - 1)
  · go_wp2
    go_ret
    exact ⟨by simp [receiptE, hx], hb⟩
  · have hb2 := btw_true hx
    have hoff : i64 off := ⟨by omega, by omega⟩
    obtain ⟨vD, vE, tb, wb, hB, hD, hE, hT, hW⟩ := h3
    have l1 := hB.lt
    have d3 := hB.cell (j := 3) rfl
    have d4 := hB.cell (j := 4) rfl
    simp only [List.getElem_toArray, List.getElem_cons_succ, List.getElem_cons_zero] at d3 d4
    have lkT := hT.look hoff
    have lkW : (Instr.lookup 129 (.map (some wb)) (.int .i64 off) false).run Try.prog w3 = .ok (.agg #[.int .i64 ((p.wt off).getD (0, false)).1, .bool ((p.wt off).getD (0, false)).2]) w3 := (hW.look hoff).1
    clear hB hD hE hT hW h
    have hR : Hid (receiptE fl n p off tr = (bif ((p.wt off).getD (0, false)).2 && decide (p.tr off = tr) then 0 else 12)) := hide (by simp [receiptE, hx])
    clear hx hb2
    generalize (p.wt off).getD (0, false) = u at *
    obtain ⟨u1, l⟩ := u
    generalize p.tr off = t at *
    have hfl := fld_wait
    simp only at lkW
    cases l
    · go_wp2
      go_ret
      exact ⟨by rw [hR.out]; simp, hb⟩
    · by_cases ht : t = tr
      · subst ht
        go_wp2
        go_ret
        exact ⟨by rw [hR.out]; simp, hb⟩
      · go_wp2
        go_ret
        exact ⟨by rw [hR.out]; simp [ht], hb⟩

set_option maxHeartbeats 1000000 in
theorem newGroup_any (i k : Nat) (st : Int) (w : World) (T : Nat → Tag) :
    Calls Try.prog 85 #[.int .i64 st] w fun e w' => ∃ gb, e = .returned (.pointer (some ⟨gb, 0, none⟩)) ∧ ∃ T', Step (fun _ => False) w T w' T' ∧ GM w' T' i k gb (newP st) := by
  have hmm := @run_makeMap Try.prog
  go_enter Try.func85, Try.ntmps85
  go_wp2
  go_ret
  have a1 := step_new w T (.map #[] 0) (.q i 6 k) (fun _ => False)
  have m1 := World.ownsMap_made (H := Unit) w Try.prog 3 (plainElem Try.prog 3)
  have t1 : TM (w.alloc (.map #[] 0)) (retag T w.heap.size (.q i 6 k)) (.q i 6 k) w.heap.size (fun _ => 0) := ⟨retag_same _ _ _, _, m1.mono (by decide), fun k => rfl, fun k h => by cases h⟩
  generalize hw1 : w.alloc (.map #[] 0) = w1 at *
  have z1 : w1.heap.size = w.heap.size + 1 := by rw [← hw1]; simp
  generalize retag T w.heap.size (.q i 6 k) = T1 at *
  have a2 := step_new w1 T1 (.map #[] 0) (.q i 7 k) (fun _ => False)
  have m2 := World.ownsMap_made (H := Unit) w1 Try.prog 3 waitElem
  have t2 : WM (w1.alloc (.map #[] 0)) (retag T1 w1.heap.size (.q i 7 k)) (.q i 7 k) w1.heap.size (fun _ => none) := ⟨retag_same _ _ _, _, m2.mono (by decide), fun k => rfl, fun k u h => (by cases h), fun k h => (by cases h)⟩
  replace t1 := t1.step a2 (fun h => h)
  rw [z1] at a2 t1 t2
  generalize hw2 : w1.alloc (.map #[] 0) = w2 at *
  have z2 : w2.heap.size = w.heap.size + 2 := by rw [← hw2]; simp [z1]
  generalize retag T1 (w.heap.size + 1) (.q i 7 k) = T2 at *
  have a3 := step_new w2 T2 (.cells #[.int .i64 st, .slice none 0 0, .slice none 0 0, .map (some w.heap.size), .map (some (w.heap.size + 1))] 131) (.q i 3 k) (fun _ => False)
  have b3 := blk_new w2 T2 #[.int .i64 st, .slice none 0 0, .slice none 0 0, .map (some w.heap.size), .map (some (w.heap.size + 1))] 131 (.q i 3 k)
  rw [z2] at a3 b3
  exact ⟨w.heap.size + 2, rfl, _, (a1.trans a2).trans a3, _, _, _, _, b3, row_nil _ _ _ _ _, row_nil _ _ _ _ _, t1.step a3 (fun h => h), t2.step a3 (fun h => h)⟩

end Go.Proofs.Ytgcbooflhdjnhaa

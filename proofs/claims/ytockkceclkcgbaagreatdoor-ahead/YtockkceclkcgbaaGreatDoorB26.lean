/- The program's group and its queue in memory; contracts of its small methods: end, first, isDone, mark, lease, finish. -/
import Derived.Test.YtockkceclkcgbaaGreatDoorB23
import Derived.Test.YtockkceclkcgbaaGreatDoorB09
import Derived.Test.YtockkceclkcgbaaGreatDoorB24
namespace Go.Proofs.YtockkceclkcgbaaGreatDoor
open Go.RowKit Go.Maps

/-- The group of number k of the queue of number i, in block gb. -/
def GM (w : World) (T : Nat → Tag) (i k gb : Nat) (p : PG) : Prop :=
  ∃ vD vE tb wb, Blk w T (.q i 3 k) gb #[.int .i64 p.start, vD, vE, .map (some tb), .map (some wb)] 134 ∧ Row w T (.q i 4 k) 69 2 vD p.done.length (flat p.done) ∧
    Row w T (.q i 5 k) 82 3 vE p.dead.length (dlVals p.dead) ∧ TM w T (.q i 6 k) tb p.tr ∧ WM w T (.q i 7 k) wb p.wt
/-- the blocks of that group -/
def SG (i k : Nat) (t : Tag) : Prop := ∃ r, 3 ≤ r ∧ t = .q i r k

theorem GM.step {S : Tag → Prop} {w w' : World} {T T' : Nat → Tag} {i k gb : Nat} {p : PG} (h : GM w T i k gb p) (hs : Step S w T w' T') (hS : ∀ r, 3 ≤ r → ¬ S (.q i r k)) : GM w' T' i k gb p := by
  obtain ⟨vD, vE, tb, wb, h1, h2, h3, h4, h5⟩ := h
  exact ⟨vD, vE, tb, wb, h1.step hs (hS 3 (by decide)), h2.step hs (hS 4 (by decide)), h3.step hs (hS 5 (by decide)), h4.step hs (hS 6 (by decide)), h5.step hs (hS 7 (by decide))⟩
theorem GM.lt {w : World} {T : Nat → Tag} {i k gb : Nat} {p : PG} (h : GM w T i k gb p) : gb < w.heap.size := by
  obtain ⟨_, _, _, _, h1, _⟩ := h
  exact h1.lt
theorem GM.start {w : World} {T : Nat → Tag} {i k gb : Nat} {p : PG} (h : GM w T i k gb p) : w.cell? ⟨gb, 0, none⟩ = some (.int .i64 p.start) := by
  obtain ⟨_, _, _, _, h1, _⟩ := h
  exact h1.cell (j := 0) rfl

/-- The program's queue of number i, in block b: it tells the document's queue m; its log is lg, the sum of that vS. -/
structure XM (w : World) (T : Nat → Tag) (i b : Nat) (m : MQ) (vL vS : Value) (lg : Bs) : Prop where
  small : m.bodies.length ≤ 400
  few : m.groups.length ≤ 6
  nodup : m.names.Nodup
  short : ∀ s ∈ m.names, s.size ≤ 16
  inv : ∀ g ∈ m.groups, InvG m g
  mem : ∃ (vB : Value) (mb : Nat) (f : Nat → Nat) (ps : Nat → PG), Blk w T (.q i 0 0) b #[.int .i64 m.c.l, .int .i64 m.c.d, .int .i64 m.c.s, .int .i64 m.c.k, .int .i64 m.time, .int .i64 m.floor, vB, .map (some mb), vL, vS] 105 ∧
    Sub w T (.q i 1 0) vB ((m.bodies.drop m.floor.toNat).map .string) ∧ NM w T (.q i 2 0) mb m.names f ∧ (∀ k g, m.groups[k]? = some g → GM w T i k (f k) (ps k) ∧ RelG m g (ps k)) ∧ BRow w T (.q i 1 1) vL lg

theorem XM.step {S : Tag → Prop} {w w' : World} {T T' : Nat → Tag} {i b : Nat} {m : MQ} {vL vS : Value} {lg : Bs} (h : XM w T i b m vL vS lg) (hs : Step S w T w' T') (hS : ∀ t, XT i t → ¬ S t) : XM w' T' i b m vL vS lg := by
  obtain ⟨h1, h2, h3, h4, h5, vB, mb, f, ps, hB, hR, hN, hG, hL⟩ := h
  have hq : ∀ r k, ¬ S (.q i r k) := fun r k => hS _ ⟨rfl, rfl⟩
  exact ⟨h1, h2, h3, h4, h5, vB, mb, f, ps, hB.step hs (hq _ _), hR.step hs (hq _ _), hN.step hs (hq _ _), fun k g hg => ⟨(hG k g hg).1.step hs (fun r _ => hq _ _), (hG k g hg).2⟩, hL.step hs (hq _ _)⟩

/-! writes into the maps -/
theorem upd_same {α : Type} (f : Int → α) (n : Int) (v : α) : upd f n v n = v := by simp [upd]
theorem upd_other {α : Type} (f : Int → α) (n : Int) (v : α) {j : Int} (h : j ≠ n) : upd f n v j = f j := by simp [upd, h]
theorem isKeyI (n : Int) : WideAt.IsKeyLit (.int .i64 n) := trivial
theorem keyI {n : Nat} (hn : n < 400) : keyOf Tryz.prog 3 (.int .i64 n) = some (.int .i64 n) := keyOf_int_mk Tryz.underlying3 (wfI (n := (n : Int)) ⟨by omega, by omega⟩)

theorem WM.store {w : World} {T : Nat → Tag} {t : Tag} {b : Nat} {f : Int → Option (Int × Bool)} (h : WM w T t b f) {n : Nat} (hn : n < 400) (u : Int × Bool) :
    ∃ w', (Instr.mapUpdate 132 (.map (some b)) (.int .i64 n) (waitV u)).run Tryz.prog w = .ok () w' ∧ WM w' T t b (upd f n (some u)) ∧ Step (fun s => s = t) w T w' T := by
  obtain ⟨hT, D, hown, hhas, hat, hbd⟩ := h
  obtain ⟨w', hrun, hM, hg⟩ := hown.update law3 Tryz.underlying132 (by unfold maxLen; omega) (keyI hn) (waitElem_mk u)
  have hhas' : ∀ k, Maps.has (D.put (.int .i64 n) (waitD u)) (.int .i64 k) = (upd f n (some u) k).isSome := fun k => by
    by_cases hk : k = n
    · subst hk; rw [has_put_same hown.isMap (isKeyI _), upd_same]; rfl
    · rw [has_put_other (by simpa using hk), hhas, upd_other _ _ _ hk]
  have hbd' : ∀ k, (upd f n (some u) k).isSome = true → 0 ≤ k ∧ k < 400 := fun k hk => by
    by_cases hk2 : k = n
    · omega
    · rw [upd_other _ _ _ hk2] at hk; exact hbd k hk
  refine ⟨w', hrun, ⟨hT, _, ownsMap_few hM (fun x hx => hbd' x (by rw [← hhas']; exact hx)), hhas', fun k v hk z => ?_, hbd'⟩, step_grown hg (fun j hj => by cases hj; exact hT) (fun _ _ => rfl)⟩
  by_cases hk2 : k = n
  · subst hk2
    rw [upd_same] at hk
    cases hk
    exact atKey_put_same hown.isMap (isKeyI _) _ _
  · rw [atKey_put_other (by simpa using hk2)]
    rw [upd_other _ _ _ hk2] at hk
    exact hat k v hk z
theorem WM.drop {w : World} {T : Nat → Tag} {t : Tag} {b : Nat} {f : Int → Option (Int × Bool)} (h : WM w T t b f) {n : Nat} (hn : n < 400) (ty : TypeId) :
    ∃ w', (Builtin.delete_ #[132, 3] ty #[.map (some b), .int .i64 n]).run Tryz.prog w = .ok (.tuple #[]) w' ∧ WM w' T t b (upd f n none) ∧ Step (fun s => s = t) w T w' T := by
  obtain ⟨hT, D, hown, hhas, hat, hbd⟩ := h
  obtain ⟨w', hrun, hM, hg⟩ := hown.drop law3 Tryz.underlying132 (keyI hn) ty
  refine ⟨w', hrun, ⟨hT, _, hM, fun k => ?_, fun k v hk z => ?_, fun k hk => ?_⟩, step_grown hg.grown (fun j hj => by cases hj; exact hT) (fun _ _ => rfl)⟩
  · by_cases hk : k = n
    · subst hk; rw [has_del_same, upd_same]; rfl
    · rw [has_del_other (by simpa using hk), hhas, upd_other _ _ _ hk]
  · by_cases hk2 : k = n
    · subst hk2; rw [upd_same] at hk; cases hk
    · rw [atKey_del_other (by simpa using hk2)]
      rw [upd_other _ _ _ hk2] at hk
      exact hat k v hk z
  · by_cases hk2 : k = n
    · omega
    · rw [upd_other _ _ _ hk2] at hk; exact hbd k hk
theorem TM.store {w : World} {T : Nat → Tag} {t : Tag} {b : Nat} {f : Int → Int} (h : TM w T t b f) {n : Nat} (hn : n < 400) (u : Int) (hu : (Lit.int .i64 u).wf = true) :
    ∃ w', (Instr.mapUpdate 131 (.map (some b)) (.int .i64 n) (.int .i64 u)).run Tryz.prog w = .ok () w' ∧ TM w' T t b (upd f n u) ∧ Step (fun s => s = t) w T w' T := by
  obtain ⟨hT, D, hown, hat, hbd⟩ := h
  obtain ⟨w', hrun, hM, hg⟩ := hown.update law3 Tryz.underlying131 (by unfold maxLen; omega) (keyI hn) (plainElem_int Tryz.underlying3 hu)
  have hbd' : ∀ k, Maps.has (D.put (.int .i64 n) (.lit (.int .i64 u))) (.int .i64 k) = true → 0 ≤ k ∧ k < 400 := fun k hk => by
    by_cases hk2 : k = n
    · omega
    · rw [has_put_other (by simpa using hk2)] at hk; exact hbd k hk
  refine ⟨w', hrun, ⟨hT, _, ownsMap_few hM hbd', fun k => ?_, hbd'⟩, step_grown hg (fun j hj => by cases hj; exact hT) (fun _ _ => rfl)⟩
  by_cases hk2 : k = n
  · subst hk2
    rw [atKey_put_same hown.isMap (isKeyI _), upd_same]
  · rw [atKey_put_other (by simpa using hk2), upd_other _ _ _ hk2]
    exact hat k
theorem TM.drop {w : World} {T : Nat → Tag} {t : Tag} {b : Nat} {f : Int → Int} (h : TM w T t b f) {n : Nat} (hn : n < 400) (ty : TypeId) :
    ∃ w', (Builtin.delete_ #[131, 3] ty #[.map (some b), .int .i64 n]).run Tryz.prog w = .ok (.tuple #[]) w' ∧ TM w' T t b (upd f n 0) ∧ Step (fun s => s = t) w T w' T := by
  obtain ⟨hT, D, hown, hat, hbd⟩ := h
  obtain ⟨w', hrun, hM, hg⟩ := hown.drop law3 Tryz.underlying131 (keyI hn) ty
  refine ⟨w', hrun, ⟨hT, _, hM, fun k => ?_, fun k hk => ?_⟩, step_grown hg.grown (fun j hj => by cases hj; exact hT) (fun _ _ => rfl)⟩
  · by_cases hk2 : k = n
    · subst hk2; rw [atKey_del_same, upd_same]
    · rw [atKey_del_other (by simpa using hk2), upd_other _ _ _ hk2]; exact hat k
  · by_cases hk2 : k = n
    · omega
    · rw [has_del_other (by simpa using hk2)] at hk; exact hbd k hk

section
variable {w : World} {T : Nat → Tag} {t : Tag} {ops : Array Oper} {rest : List Oper} {o : Oper} {a : Act} {Q : Exit → Act → World → Prop}
theorem wpList_store_wait (hg : o.guard = none) (m x v : Operand) (hop : o.op = Op.mapUpdate 132 m x v) (b : Nat) (f : Int → Option (Int × Bool)) (hm : a.eval m = .map (some b)) (h : WM w T t b f) (n : Nat) (hn : n < 400) (hx : a.eval x = .int .i64 n) (u : Int × Bool) (hv : a.eval v = waitV u)
    (hK : ∀ w', WM w' T t b (upd f n (some u)) → Step (fun s => s = t) w T w' T → wpList Tryz.prog ops Q rest (a.put o.dst undef) w') : wpList Tryz.prog ops Q (o :: rest) a w := by
  refine wpList_plain hg fun K' hK' => ?_
  obtain ⟨w', hrun, r1, r2⟩ := h.store hn u
  unfold Oper.wp
  simp [execOp, hop, hm, hx, hv, hrun, Result.andThen]
  exact hK' _ _ (hK w' r1 r2)
theorem wpList_store_try (hg : o.guard = none) (m x v : Operand) (hop : o.op = Op.mapUpdate 131 m x v) (b : Nat) (f : Int → Int) (hm : a.eval m = .map (some b)) (h : TM w T t b f) (n : Nat) (hn : n < 400) (hx : a.eval x = .int .i64 n) (u : Int) (hu : (Lit.int .i64 u).wf = true) (hv : a.eval v = .int .i64 u)
    (hK : ∀ w', TM w' T t b (upd f n u) → Step (fun s => s = t) w T w' T → wpList Tryz.prog ops Q rest (a.put o.dst undef) w') : wpList Tryz.prog ops Q (o :: rest) a w := by
  refine wpList_plain hg fun K' hK' => ?_
  obtain ⟨w', hrun, r1, r2⟩ := h.store hn u hu
  unfold Oper.wp
  simp [execOp, hop, hm, hx, hv, hrun, Result.andThen]
  exact hK' _ _ (hK w' r1 r2)
theorem wpList_drop_wait (hg : o.guard = none) (m x : Operand) (hop : o.op = Op.call { callee := Callee.builtin Builtin.delete, args := #[m, x], argTypes := #[132, 3] }) (b : Nat) (f : Int → Option (Int × Bool)) (hm : a.eval m = .map (some b)) (h : WM w T t b f) (n : Nat) (hn : n < 400) (hx : a.eval x = .int .i64 n)
    (hK : ∀ w', WM w' T t b (upd f n none) → Step (fun s => s = t) w T w' T → wpList Tryz.prog ops Q rest (a.put o.dst (.tuple #[])) w') : wpList Tryz.prog ops Q (o :: rest) a w := by
  refine wpList_plain hg fun K' hK' => ?_
  obtain ⟨w', hrun, r1, r2⟩ := h.drop hn o.type
  unfold Oper.wp
  simp [execOp, hop, resolve, invoke, builtin, hm, hx, hrun, Result.andThen]
  exact hK' _ _ (hK w' r1 r2)
theorem wpList_drop_try (hg : o.guard = none) (m x : Operand) (hop : o.op = Op.call { callee := Callee.builtin Builtin.delete, args := #[m, x], argTypes := #[131, 3] }) (b : Nat) (f : Int → Int) (hm : a.eval m = .map (some b)) (h : TM w T t b f) (n : Nat) (hn : n < 400) (hx : a.eval x = .int .i64 n)
    (hK : ∀ w', TM w' T t b (upd f n 0) → Step (fun s => s = t) w T w' T → wpList Tryz.prog ops Q rest (a.put o.dst (.tuple #[])) w') : wpList Tryz.prog ops Q (o :: rest) a w := by
  refine wpList_plain hg fun K' hK' => ?_
  obtain ⟨w', hrun, r1, r2⟩ := h.drop hn o.type
  unfold Oper.wp
  simp [execOp, hop, resolve, invoke, builtin, hm, hx, hrun, Result.andThen]
  exact hK' _ _ (hK w' r1 r2)
end

attribute [local go_sem] over_cell

/-! the sets' functions over a row -/
set_option maxHeartbeats 400000 in
theorem has_nil (n : Int) (w : World) : Calls Tryz.prog 136 #[.slice none 0 0, .int .i64 n] w fun e w' => e = .returned (.tuple #[.bool false, .int .i64 0]) ∧ Below w.heap.size w w' := by
  go_enter Tryz.func136, Tryz.ntmps136
  go_wp2_with fail
  refine (isSet_empty none 0 _).mono ?_
  rintro e w0 ⟨rfl, hb0⟩
  rw [show setB [] = true from rfl]
  go_wp2
  refine wp_loop_rounds 1 ?_
  rw [rounds_succ]
  go_wp2
  go_ret2
  exact ⟨rfl, hb0⟩
set_option maxHeartbeats 400000 in
theorem gap_nil (n : Int) (w : World) (h0 : 0 ≤ n) (h1 : n ≤ 1099511627776) : Calls Tryz.prog 146 #[.slice none 0 0, .int .i64 n] w fun e w' => e = .returned (.tuple #[.int .i64 n, .int .i64 0]) ∧ Below w.heap.size w w' := by
  have q1 : ¬ n < 0 := by omega
  have q2 : ¬ 1099511627776 < n := by omega
  go_enter Tryz.func146, Tryz.ntmps146
  go_wp2_with fail
  refine (isSet_empty none 0 _).mono ?_
  rintro e w0 ⟨rfl, hb0⟩
  rw [show setB [] = true from rfl]
  go_wp2
  refine wp_loop_rounds 1 ?_
  rw [rounds_succ]
  go_wp2
  go_ret2
  exact ⟨rfl, hb0⟩

theorem row_two {w : World} {T : Nat → Tag} {t : Tag} {v : Value} {L : RL} (h : Row w T t 69 2 v L.length (flat L)) : (v = .slice none 0 0 ∧ L = []) ∨ ∃ g cap, v = .slice (some ⟨g, 0, none⟩) L.length cap ∧ Cells w g 0 L ∧ L.length ≤ cap := by
  rcases h.1.2 with ⟨h1, h2⟩ | ⟨g, cap, cur, rfl, hb, hg, h3, h4, h5, h6⟩
  · refine .inl ⟨h1, List.eq_nil_of_length_eq_zero ?_⟩
    first | exact h2 | (have := congrArg List.length h2; simpa [flat_length] using this) | omega
  · exact .inr ⟨g, cap, rfl, cells_of_own h.1, by omega⟩

theorem has_row {w : World} {T : Nat → Tag} {t : Tag} {v : Value} {L : RL} (n : Int) (h : Row w T t 69 2 v L.length (flat L)) (hs : setB L = true) :
    Calls Tryz.prog 136 #[v, .int .i64 n] w fun e w' => e = .returned (.tuple #[.bool (hasB L n), .int .i64 0]) ∧ Below w.heap.size w w' := by
  rcases row_two h with ⟨rfl, rfl⟩ | ⟨g, cap, rfl, hc, _⟩
  · exact (has_nil n w).mono fun e w' ⟨h1, h2⟩ => ⟨h1.trans (by simp [hasB]), h2⟩
  · refine (has_cells L n g 0 cap w hc (by have := setB_len hs; omega)).mono fun e w' ⟨h1, h2⟩ => ⟨h1.trans ?_, h2⟩
    rw [hs]
    rfl
theorem gap_row {w : World} {T : Nat → Tag} {t : Tag} {v : Value} {L : RL} (n : Int) (h : Row w T t 69 2 v L.length (flat L)) (hs : setB L = true) (h0 : 0 ≤ n) (h1 : n ≤ 1099511627776) :
    Calls Tryz.prog 146 #[v, .int .i64 n] w fun e w' => e = .returned (.tuple #[.int .i64 (gapI L n), .int .i64 0]) ∧ Below w.heap.size w w' := by
  rcases row_two h with ⟨rfl, rfl⟩ | ⟨g, cap, rfl, hc, _⟩
  · exact (gap_nil n w h0 h1).mono fun e w' ⟨h1, h2⟩ => ⟨h1.trans (by simp [gapI]), h2⟩
  · have hf : fromOk n = true := by simp [fromOk]; omega
    refine (gap_cells L n g 0 cap w hc (by have := setB_len hs; omega)).mono fun e w' ⟨h1, h2⟩ => ⟨h1.trans ?_, h2⟩
    rw [gapV_yes (by rw [hs, hf]; rfl), hs, hf]
    rfl
theorem add_row {w : World} {T : Nat → Tag} {t : Tag} {v : Value} {L : RL} (a b : Int) (h : Row w T t 69 2 v L.length (flat L)) (hs : setB L = true) (hr : isR a b = true) :
    Calls Tryz.prog 120 #[v, .agg #[.int .i64 a, .int .i64 b]] w fun e w' => ∃ g cap, e = .returned (.tuple #[.slice (some ⟨g, 0, none⟩) (addTo L a b).length cap, .int .i64 0]) ∧
      w'.ownsRow w.heap.size 69 2 (.slice (some ⟨g, 0, none⟩) (addTo L a b).length cap) (addTo L a b).length (flat (addTo L a b)) ∧ Below w.heap.size w w' := by
  rcases row_two h with ⟨rfl, rfl⟩ | ⟨g, cap, rfl, hc, hcap⟩
  · refine (add_nil a b w hr).mono fun e w' ⟨g, h1, h2, h3⟩ => ⟨g, 1, h1, h2, h3⟩
  · exact (add_yes L a b g 0 cap w hc (by have := setB_len hs; omega) hcap hs hr).mono fun e w' ⟨g, h1, h2, h3⟩ => ⟨g, _, h1, h2, h3⟩

/-! the queue's small methods, over its cells -/
set_option maxHeartbeats 1000000 in
theorem qend_any (b : Nat) (fl : Int) (ao : Option Addr) (n cap : Nat) (w : World) (hlt : b < w.heap.size) (c5 : w.cell? ⟨b, 5, none⟩ = some (.int .i64 fl)) (c6 : w.cell? ⟨b, 6, none⟩ = some (.slice ao n cap)) (h0 : 0 ≤ fl) (h1 : fl ≤ 400) (h2 : n ≤ 400) :
    Calls Tryz.prog 61 #[.pointer (some ⟨b, 0, none⟩)] w fun e w' => e = .returned (.int .i64 (fl + n)) ∧ Below w.heap.size w w' := by
  go_enter Tryz.func61, Tryz.ntmps61
  go_wp2_with fail
  refine wp_region_over (by kernel_rfl) (by kernel_rfl) ?_
  repeat (go_big_quiet_step (fail))
  refine wpQuiet_nil ?_
  rintro _ ⟨x, rfl⟩
  go_wp2
  go_ret
  exact ⟨by first | rfl | congr 2, over_below w x⟩

set_option maxHeartbeats 1000000 in
theorem qfirst_any (b gb : Nat) (fl st : Int) (w : World) (hlt : b < w.heap.size) (hlg : gb < w.heap.size) (c5 : w.cell? ⟨b, 5, none⟩ = some (.int .i64 fl)) (d0 : w.cell? ⟨gb, 0, none⟩ = some (.int .i64 st)) :
    Calls Tryz.prog 103 #[.pointer (some ⟨b, 0, none⟩), .pointer (some ⟨gb, 0, none⟩)] w fun e w' => e = .returned (.int .i64 (max fl st)) ∧ Below w.heap.size w w' := by
  go_enter Tryz.func103, Tryz.ntmps103
  go_wp2_with fail
  refine wp_region_over (by kernel_rfl) (by kernel_rfl) ?_
  repeat (go_big_quiet_step (fail))
  refine wpQuiet_nil ?_
  rintro _ ⟨x, rfl⟩
  go_wp2
  · go_ret
    exact ⟨by rw [show max fl st = st by omega]; rfl, over_below w x⟩
  · go_ret
    exact ⟨by rw [show max fl st = fl by omega]; rfl, over_below w x⟩

set_option maxHeartbeats 1000000 in
theorem isDone_any (i k gb : Nat) (p : PG) (n : Int) (w : World) (T : Nat → Tag) (h : GM w T i k gb p) (hs : setB p.done = true) :
    Calls Tryz.prog 104 #[.pointer (some ⟨gb, 0, none⟩), .int .i64 n] w fun e w' => e = .returned (.bool (hasB p.done n)) ∧ Below w.heap.size w w' := by
  obtain ⟨vD, vE, tb, wb, hB, hD, hE, hT, hW⟩ := h
  obtain ⟨ao, cap, rfl⟩ := row_form hD
  have l1 := hB.lt
  have c1 := hB.cell (j := 1) rfl
  simp only [List.getElem_toArray, List.getElem_cons_succ, List.getElem_cons_zero] at c1
  clear hB
  go_enter Tryz.func104, Tryz.ntmps104
  go_wp2_with fail
  refine (has_row n hD hs).mono ?_
  rintro e w1 ⟨rfl, hb⟩
  go_wp2
  go_ret
  exact ⟨by first | rfl | simp, by first | exact hb | exact hb.alloc hb.size _⟩

set_option maxHeartbeats 1000000 in
theorem lease_any (i k gb : Nat) (p : PG) (n : Nat) (u : Int) (w : World) (T : Nat → Tag) (h : GM w T i k gb p) (hn : n < 400) :
    Calls Tryz.prog 138 #[.pointer (some ⟨gb, 0, none⟩), .int .i64 n, .int .i64 u] w fun e w' => e = .returned (.tuple #[]) ∧ ∃ T', Step (SG i k) w T w' T' ∧ GM w' T' i k gb (leaseP p n u) := by
  obtain ⟨vD, vE, tb, wb, hB, hD, hE, hT, hW⟩ := h
  have l1 := hB.lt
  have c4 := hB.cell (j := 4) rfl
  simp only [List.getElem_toArray, List.getElem_cons_succ, List.getElem_cons_zero] at c4
  go_enter Tryz.func138, Tryz.ntmps138
  go_wp2_with (first
    | (at_mapUpdate; refine wpList_store_wait rfl _ _ _ rfl wb _ rfl hW n hn rfl (u, true) rfl ?_; intro w3 hM3 hs3)
    | go_in)
  go_end0
  have hs4 : Step (SG i k) w T w3 T := hs3.mono (fun t ht => ⟨7, by decide, ht⟩)
  exact ⟨rfl, T, hs4, vD, vE, tb, wb, hB.step hs3 (by simp), hD.step hs3 (by simp), hE.step hs3 (by simp), hT.step hs3 (by simp), hM3⟩

/-- the messages from lo to hi are done with -/
def finishR (p : PG) (lo hi : Int) : PG := { p with done := addTo p.done lo hi, tr := clr 0 p.tr lo hi, wt := clr none p.wt lo hi }
theorem finishR_one (p : PG) (n : Int) : finishR p n n = finishP p n := by
  have h : ∀ {α : Type} (z : α) (f : Int → α), clr z f n n = upd f n z := fun z f => funext fun j => by
    unfold clr upd
    by_cases hj : j = n
    · rw [if_pos (by omega), if_pos hj]
    · rw [if_neg (by omega), if_neg hj]
  unfold finishR finishP
  rw [h, h]
theorem clr_step {α : Type} (z : α) (f : Int → α) (lo : Int) (o : Int) (h : lo ≤ o) : upd (clr z f lo (o - 1)) o z = clr z f lo o := funext fun j => by
  simp only [clr, upd]
  by_cases hj : j = o
  · rw [if_pos hj, if_pos (by omega)]
  · rw [if_neg hj]
    by_cases hk : lo ≤ j ∧ j ≤ o
    · rw [if_pos (by omega), if_pos hk]
    · rw [if_neg (by omega), if_neg hk]
theorem clr_none {α : Type} (z : α) (f : Int → α) (lo : Int) : clr z f lo (lo - 1) = f := funext fun j => by
  unfold clr
  rw [if_neg (by omega)]

set_option maxRecDepth 100000 in
set_option maxHeartbeats 2000000 in
theorem finishR_any (i k gb : Nat) (p : PG) (lo hi : Nat) (w : World) (T : Nat → Tag) (h : GM w T i k gb p) (hs : setB p.done = true) (hle : lo ≤ hi) (hn : hi < 400) :
    Calls Tryz.prog 91 #[.pointer (some ⟨gb, 0, none⟩), .int .i64 lo, .int .i64 hi] w fun e w' => e = .returned (.tuple #[]) ∧ ∃ T', Step (SG i k) w T w' T' ∧ GM w' T' i k gb (finishR p lo hi) := by
  obtain ⟨vD, vE, tb, wb, hB, hD, hE, hT, hW⟩ := h
  obtain ⟨ao, cap, rfl⟩ := row_form hD
  have l1 := hB.lt
  have c1 := hB.cell (j := 1) rfl
  simp only [List.getElem_toArray, List.getElem_cons_succ, List.getElem_cons_zero] at c1
  have hr : isR (lo : Int) (hi : Int) = true := by simp [isR]; omega
  go_enter Tryz.func91, Tryz.ntmps91
  go_wp2_with fail
  refine (add_row lo hi hD hs hr).mono ?_
  rintro e w1 ⟨g, cap1, rfl, hown, hb1⟩
  obtain ⟨T1, hs1, hD1⟩ := own_row hb1 hown T (.q i 4 k)
  have hB1 := hB.step hs1 (fun h => h)
  have hE1 := hE.step hs1 (fun h => h)
  have hT1 := hT.step hs1 (fun h => h)
  have hW1 := hW.step hs1 (fun h => h)
  have l2 := hB1.lt
  have d1 := hB1.cell (j := 1) rfl
  have f1 := hB1.frozen 1
  simp only [List.getElem_toArray, List.getElem_cons_succ, List.getElem_cons_zero] at d1
  have hs2 : Step (fun t => t = .q i 3 k) w1 T1 (w1.setCell ⟨gb, 1, none⟩ (.slice (some ⟨g, 0, none⟩) (addTo p.done lo hi).length cap1)) T1 := step_setCell _ _ _ _ _ hB1.1
  have hB2 := hB1.set 1 (.slice (some ⟨g, 0, none⟩) (addTo p.done lo hi).length cap1)
  have hD2 := hD1.step hs2 (by simp)
  have hE2 := hE1.step hs2 (by simp)
  have hT2 := hT1.step hs2 (by simp)
  have hW2 := hW1.step hs2 (by simp)
  have hs12 : Step (SG i k) w T (w1.setCell ⟨gb, 1, none⟩ (.slice (some ⟨g, 0, none⟩) (addTo p.done lo hi).length cap1)) T1 := (hs1.mono (fun _ h => h.elim)).trans (hs2.mono (fun t ht => ⟨3, by decide, ht⟩))
  replace hB2 : Blk (w1.setCell ⟨gb, 1, none⟩ (.slice (some ⟨g, 0, none⟩) (addTo p.done lo hi).length cap1)) T1 (.q i 3 k) gb #[.int .i64 p.start, .slice (some ⟨g, 0, none⟩) (addTo p.done lo hi).length cap1, vE, .map (some tb), .map (some wb)] 134 := by simpa using hB2
  clear hB hD hE hT hW hB1 hD1 hE1 hT1 hW1 hs1 hs2 hb1 hown c1 l1
  go_wp2_with fail
  clear d1 f1 l2
  generalize hw2 : w1.setCell ⟨gb, 1, none⟩ (.slice (some ⟨g, 0, none⟩) (addTo p.done lo hi).length cap1) = w2 at *
  go_loopw [6] (fun u6 wr => ∃ (o : Nat) (T' : Nat → Tag), lo ≤ o ∧ o ≤ hi + 1 ∧ u6 = .int .i64 o ∧ Step (SG i k) w T wr T' ∧ Blk wr T' (.q i 3 k) gb #[.int .i64 p.start, .slice (some ⟨g, 0, none⟩) (addTo p.done lo hi).length cap1, vE, .map (some tb), .map (some wb)] 134 ∧
      Row wr T' (.q i 4 k) 69 2 (.slice (some ⟨g, 0, none⟩) (addTo p.done lo hi).length cap1) (addTo p.done lo hi).length (flat (addTo p.done lo hi)) ∧ Row wr T' (.q i 5 k) 82 3 vE p.dead.length (dlVals p.dead) ∧ TM wr T' (.q i 6 k) tb (clr 0 p.tr lo (o - 1)) ∧ WM wr T' (.q i 7 k) wb (clr none p.wt lo (o - 1))) (fun u6 _ => hi + 1 - (intOf u6).toNat)
  case atStart => exact ⟨lo, T1, Nat.le_refl _, by omega, rfl, hs12, hB2, hD2, hE2, by rw [clr_none]; exact hT2, by rw [clr_none]; exact hW2⟩
  case round =>
    obtain ⟨o, T', ho1, ho2, rfl, hs, hB, hD, hE, hT, hW⟩ := hrel
    clear hB2 hD2 hE2 hT2 hW2 hs12
    have l1 := hB.lt
    have d3 := hB.cell (j := 3) rfl
    simp only [List.getElem_toArray, List.getElem_cons_succ, List.getElem_cons_zero] at d3
    by_cases hlt : o ≤ hi
    · have ho : o < 400 := by omega
      go_wp2_with (first
        | (at_delete; refine wpList_drop_try rfl _ _ rfl tb _ rfl hT o ho rfl ?_; intro w3 hT3 hs3; have hB3 := hB.step hs3 (by simp); have l4 := hB3.lt; have e4 := hB3.cell (j := 4) (v := .map (some wb)) (by simp); have hW3 := hW.step hs3 (by simp))
        | (at_delete; refine wpList_drop_wait rfl _ _ rfl wb _ rfl hW3 o ho rfl ?_; intro w4 hW4 hs4)
        | go_in)
      rw [clr_step _ _ _ _ (by omega)] at hT3 hW4
      refine ⟨⟨o + 1, T', by omega, by omega, by simp, hs.trans ((hs3.mono (fun t ht => ⟨6, by decide, ht⟩)).trans (hs4.mono (fun t ht => ⟨7, by decide, ht⟩))), hB3.step hs4 (by simp), (hD.step hs3 (by simp)).step hs4 (by simp), (hE.step hs3 (by simp)).step hs4 (by simp), ?_, ?_⟩, by simp [intOf]; omega⟩
      · rw [show ((o + 1 : Nat) : Int) - 1 = o by omega]; exact hT3.step hs4 (by simp)
      · rw [show ((o + 1 : Nat) : Int) - 1 = o by omega]; exact hW4
    · have e : o = hi + 1 := by omega
      subst e
      rw [show ((hi + 1 : Nat) : Int) - 1 = hi by omega] at hT hW
      go_wp2
      go_end0
      exact ⟨rfl, T', hs, _, vE, tb, wb, hB, hD, hE, hT, hW⟩
theorem finish_any (i k gb : Nat) (p : PG) (n : Nat) (w : World) (T : Nat → Tag) (h : GM w T i k gb p) (hs : setB p.done = true) (hn : n < 400) :
    Calls Tryz.prog 91 #[.pointer (some ⟨gb, 0, none⟩), .int .i64 n, .int .i64 n] w fun e w' => e = .returned (.tuple #[]) ∧ ∃ T', Step (SG i k) w T w' T' ∧ GM w' T' i k gb (finishP p n) := by
  rw [← finishR_one]
  exact finishR_any i k gb p n n w T h hs (Nat.le_refl _) hn

end Go.Proofs.YtockkceclkcgbaaGreatDoor

/- The document's Receive as one walk over the messages that may be delivered: first those that come again, then the new ones. -/
import Derived.Test.YtockkceclkcgbaaGreatDoorT11
import Derived.Test.YtockkceclkcgbaaGreatDoorT01
import Derived.Conc.LoneSelect
import Derived.Test.YtockkceclkcgbaaGreatDoorT10
namespace Go.Proofs.YtockkceclkcgbaaGreatDoor
open Go.RowKit

/-- a message is looked at -/
def visit (m : MQ) (start : Int) (st : RS) (v : Nat) : RS := match st.items[v]? with
  | none => st
  | some x => recvOne m start st v x
def takeV (m : MQ) (start n : Int) : List Nat → RS → RS
  | [], st => st
  | v :: r, st => bif decide (n ≤ st.out.length) then st else takeV m start n r (visit m start st v)

def triedB (l : List It) (v : Nat) : Bool := match l[v]? with | some x => !decide (x.tries = 0) | none => false
def freshB (l : List It) (v : Nat) : Bool := match l[v]? with | some x => decide (x.tries = 0) | none => false
def candB (m : MQ) (g : MG) (v : Nat) : Bool := match g.items[v]? with | some x => !passed m g.start v x | none => false
/-- what may be delivered again, among the first k; what is new -/
def againTo (m : MQ) (g : MG) (k : Nat) : List Nat := ((List.range k).filter (triedB g.items)).filter (candB m g)
def newTo (m : MQ) (g : MG) (k : Nat) : List Nat := ((List.range k).filter (freshB g.items)).filter (candB m g)

theorem takeV_full {m : MQ} {start n : Int} {st : RS} (h : n ≤ st.out.length) (l : List Nat) : takeV m start n l st = st := by
  cases l with
  | nil => rfl
  | cons v r => simp [takeV, h]
theorem visit_items {m : MQ} {start : Int} {st : RS} {v j : Nat} (h : j ≠ v) : (visit m start st v).items[j]? = st.items[j]? := by
  unfold visit
  cases hx : st.items[v]? with
  | none => rfl
  | some x =>
    simp only [recvOne]
    have hv : ¬ v = j := fun e => h e.symm
    cases passed m start v x
    · cases decide (m.c.d ≤ x.tries)
      · simp [hv]
      · simp [hv]
    · rfl

theorem freshTo_filter (l : List It) : ∀ k, freshTo l k = (List.range k).filter (freshB l)
  | 0 => rfl
  | k + 1 => by
    have ih := freshTo_filter l k
    rw [List.range_succ, List.filter_append, ← ih, freshTo]
    cases hx : l[k]? with
    | none => simp [freshB, hx]
    | some x => by_cases h : x.tries = 0 <;> simp [freshB, hx, h]

theorem run_fresh {m : MQ} {start n : Int} {fr : List Nat} : ∀ (f j : Nat) (st : RS), f = fr.length - j → recvRun m start fr n f (m.bodies.length + j) st = takeV m start n (fr.drop j) st
  | 0, j, st, h => by
    rw [List.drop_eq_nil_of_le (by omega)]
    rfl
  | f + 1, j, st, h => by
    have hj : j < fr.length := by omega
    rw [List.drop_eq_getElem_cons hj]
    unfold recvRun takeV
    cases decide (n ≤ st.out.length)
    · simp only [cond_false]
      have ih := run_fresh (m := m) (start := start) (n := n) (fr := fr) f (j + 1) (visit m start st fr[j]) (by omega)
      rw [← ih, Nat.add_assoc]
      congr 1
      have hk : ¬ m.bodies.length + j < m.bodies.length := by omega
      simp only [recvStep, visit, hk, decide_false, cond_false, Nat.add_sub_cancel_left, List.getElem?_eq_getElem hj]
      cases st.items[fr[j]]? <;> rfl
    · rfl

theorem run_again {m : MQ} {start n : Int} {fr : List Nat} {items : List It} (hl : items.length = m.bodies.length) : ∀ (d k : Nat) (st : RS), k + d = m.bodies.length → (∀ j, k ≤ j → st.items[j]? = items[j]?) →
    recvRun m start fr n (d + fr.length) k st = takeV m start n ((List.range' k d).filter (triedB items) ++ fr) st
  | 0, k, st, hk, _ => by
    have := run_fresh (m := m) (start := start) (n := n) (fr := fr) fr.length 0 st (by omega)
    have hk2 : k = m.bodies.length := by omega
    subst hk2
    simpa using this
  | d + 1, k, st, hk, hst => by
    obtain ⟨x, hx⟩ : ∃ x, items[k]? = some x := ⟨_, List.getElem?_eq_getElem (by omega)⟩
    have hsx : st.items[k]? = some x := (hst k (Nat.le_refl _)).trans hx
    rw [show d + 1 + fr.length = (d + fr.length) + 1 by omega, List.range'_succ]
    unfold recvRun
    by_cases hf : n ≤ st.out.length
    · rw [takeV_full hf]
      simp [hf]
    · simp only [hf, decide_false, cond_false]
      have hlt : k < m.bodies.length := by omega
      by_cases ht : x.tries = 0
      · have e1 : recvStep m start fr st k = st := by simp [recvStep, hlt, hsx, ht]
        rw [e1, run_again hl d (k + 1) st (by omega) (fun j hj => hst j (by omega))]
        simp [triedB, hx, ht]
      · have e1 : recvStep m start fr st k = visit m start st k := by simp [recvStep, visit, hlt, hsx, ht]
        rw [e1, run_again hl d (k + 1) _ (by omega) (fun j hj => (visit_items (by omega)).trans (hst j (by omega)))]
        have e2 : (k :: List.range' (k + 1) d).filter (triedB items) = k :: (List.range' (k + 1) d).filter (triedB items) := by simp [triedB, hx, ht]
        rw [e2]
        simp [takeV, hf]

theorem takeV_cand {m : MQ} {g : MG} {n : Int} : ∀ (l : List Nat) (st : RS), l.Nodup → (∀ v ∈ l, st.items[v]? = g.items[v]?) → takeV m g.start n l st = takeV m g.start n (l.filter (candB m g)) st
  | [], _, _, _ => rfl
  | v :: r, st, hn, hst => by
    have hv := hst v (by simp)
    obtain ⟨hn1, hn2⟩ := List.nodup_cons.1 hn
    by_cases hf : n ≤ st.out.length
    · rw [takeV_full hf, takeV_full hf]
    · cases hc : candB m g v with
      | true =>
        rw [List.filter_cons_of_pos hc]
        simp only [takeV, hf, decide_false, cond_false]
        exact takeV_cand r _ hn2 (fun j hj => (visit_items (fun e => hn1 (by rw [← e]; exact hj))).trans (hst j (by simp [hj])))
      | false =>
        rw [List.filter_cons_of_neg (by simp [hc])]
        have e : visit m g.start st v = st := by
          unfold visit
          rw [hv]
          unfold candB at hc
          cases hx : g.items[v]? with
          | none => rfl
          | some x =>
            rw [hx] at hc
            simp only [Bool.not_eq_false'] at hc
            simp [recvOne, hc]
        simp only [takeV, hf, decide_false, cond_false, e]
        exact takeV_cand r st hn2 (fun j hj => hst j (by simp [hj]))

/-- what the walk is over: in their order, none twice, each may be delivered -/
theorem cands_nodup (_m : MQ) (g : MG) (k : Nat) : ((List.range k).filter (triedB g.items) ++ (List.range k).filter (freshB g.items)).Nodup := by
  refine List.nodup_append.2 ⟨List.nodup_range.filter _, List.nodup_range.filter _, fun a ha b hb e => ?_⟩
  subst e
  have h1 := (List.mem_filter.1 ha).2
  have h2 := (List.mem_filter.1 hb).2
  unfold triedB at h1
  unfold freshB at h2
  cases hx : g.items[a]? with
  | none => rw [hx] at h1; cases h1
  | some x =>
    rw [hx] at h1 h2
    simp at h1 h2
    exact h1 h2

theorem recvAll_take {m : MQ} {g : MG} {n : Int} (hl : g.items.length = m.bodies.length) :
    recvAll m g n = takeV m g.start n (againTo m g m.bodies.length ++ newTo m g m.bodies.length) ⟨g.items, g.dead, m.changes, []⟩ := by
  unfold recvAll
  rw [freshTo_filter, hl, run_again hl m.bodies.length 0 _ (by omega) (fun _ _ => rfl), takeV_cand _ _ ?_ (fun _ _ => rfl)]
  · rw [List.filter_append, ← List.range_eq_range']
    rfl
  · rw [← List.range_eq_range']
    exact cands_nodup m g _
theorem take_nodup (m : MQ) (g : MG) (k : Nat) : (againTo m g k ++ newTo m g k).Nodup := by
  rw [againTo, newTo, ← List.filter_append]
  exact (cands_nodup m g k).filter _
theorem take_cand {m : MQ} {g : MG} {k v : Nat} (h : v ∈ againTo m g k ++ newTo m g k) : ∃ x, g.items[v]? = some x ∧ passed m g.start v x = false := by
  rw [againTo, newTo, ← List.filter_append] at h
  have h1 := (List.mem_filter.1 h).2
  unfold candB at h1
  cases hx : g.items[v]? with
  | none => rw [hx] at h1; cases h1
  | some x =>
    rw [hx] at h1
    exact ⟨x, rfl, by simpa using h1⟩

theorem cands_few {c : Nat → Bool} {a : Nat} (h : ∀ v, v < a → c v = false) : ∀ k, ((List.range k).filter c).length ≤ k - a
  | 0 => by simp
  | k + 1 => by
    have ih := cands_few h k
    rw [List.range_succ, List.filter_append, List.length_append]
    by_cases hk : k < a
    · simp [h k hk]; omega
    · have : ([k].filter c).length ≤ 1 := List.length_filter_le _ _
      omega
theorem candB_low {m : MQ} {g : MG} {v : Nat} (h : (v : Int) < m.floor ∨ (v : Int) < g.start) : candB m g v = false := by
  unfold candB
  cases g.items[v]? with
  | none => rfl
  | some x => rcases h with h | h <;> simp [passed, h]
theorem againTo_few {m : MQ} {g : MG} {k a : Nat} (h : ∀ v, v < a → candB m g v = false) : (againTo m g k).length ≤ k - a := by
  rw [againTo, List.filter_filter]
  exact cands_few (fun v hv => by simp [h v hv]) k
theorem newTo_few {m : MQ} {g : MG} {k a : Nat} (h : ∀ v, v < a → candB m g v = false) : (newTo m g k).length ≤ k - a := by
  rw [newTo, List.filter_filter]
  exact cands_few (fun v hv => by simp [h v hv]) k
theorem againTo_low {m : MQ} {g : MG} {a : Nat} (h : ∀ v, v < a → candB m g v = false) : againTo m g a = [] := List.eq_nil_of_length_eq_zero (by have := againTo_few (k := a) h; omega)
theorem newTo_low {m : MQ} {g : MG} {a : Nat} (h : ∀ v, v < a → candB m g v = false) : newTo m g a = [] := List.eq_nil_of_length_eq_zero (by have := newTo_few (k := a) h; omega)

theorem againTo_skip {m : MQ} {g : MG} {k : Nat} (h : candB m g k = false) : againTo m g (k + 1) = againTo m g k := by
  simp only [againTo, List.filter_filter, List.range_succ, List.filter_append]
  simp [h]
theorem newTo_skip {m : MQ} {g : MG} {k : Nat} (h : candB m g k = false) : newTo m g (k + 1) = newTo m g k := by
  simp only [newTo, List.filter_filter, List.range_succ, List.filter_append]
  simp [h]
theorem againTo_yes {m : MQ} {g : MG} {k : Nat} {x : It} (h : candB m g k = true) (hx : g.items[k]? = some x) (ht : x.tries ≠ 0) : againTo m g (k + 1) = againTo m g k ++ [k] ∧ newTo m g (k + 1) = newTo m g k := by
  simp only [againTo, newTo, List.filter_filter, List.range_succ, List.filter_append]
  simp [h, triedB, freshB, hx, ht]
theorem newTo_yes {m : MQ} {g : MG} {k : Nat} {x : It} (h : candB m g k = true) (hx : g.items[k]? = some x) (ht : x.tries = 0) : againTo m g (k + 1) = againTo m g k ∧ newTo m g (k + 1) = newTo m g k ++ [k] := by
  simp only [againTo, newTo, List.filter_filter, List.range_succ, List.filter_append]
  simp [h, triedB, freshB, hx, ht]

/-- may it be delivered, in the program's words -/
theorem cand_words {m : MQ} {g : MG} {p : PG} {k : Nat} {x : It} (hr : RelG m g p) (hx : g.items[k]? = some x) (h1 : m.floor ≤ k) (h2 : g.start ≤ k) : candB m g k = !((p.wt k).isSome || hasB p.done k) := by
  have q1 : ¬ (k : Int) < m.floor := by omega
  have q2 : ¬ (k : Int) < g.start := by omega
  rw [hr.wt, hr.done, doneB_at, itemAt_nat, hx]
  simp only [candB, hx, passed, q1, q2, decide_false, Bool.false_or, waitOf]
  by_cases h3 : 0 < x.done <;> by_cases h4 : m.time < x.till <;> by_cases h5 : m.time < x.after <;> simp [h3, h4, h5]

end Go.Proofs.YtockkceclkcgbaaGreatDoor

/- Over any program: a send into a channel with room, and a select of one receive with a default, as steps of a walk. -/
namespace Go.Proofs.YtockkceclkcgbaaGreatDoor
open Go.RowKit Go.Conc

/-- a region under way, its rest told by the machine's own steps -/
def wpS (P : Program) (ops : Array Oper) (Q : Exit → Act → World → Prop) (l : List Nat) (a : Act) (w : World) : Prop :=
  ∀ (b : Frame) (k : List Item) (cs : List Frame), ∃ e a' w', Q e a' w' ∧ Arrives P (lone (b.at a (.inRegion ops l :: k)) cs w) b k cs e a' w'

section
variable {P : Program} {ops : Array Oper} {Q : Exit → Act → World → Prop} {a : Act} {w : World} {i : Nat} {rest : List Nat} {o : Oper}

theorem wp_region_S {id : Nat} (h : wpS P ops Q (List.range ops.size) a w) : (Code.region id ops false).wp P Q a w :=
  fun b k cs => let ⟨e, a', w', q, r⟩ := h b k cs; ⟨e, a', w', q, .of_steps (.one step_region) r⟩
theorem wpS_nil (h : Q .normal a w) : wpS P ops Q [] a w := fun _ _ _ => ⟨.normal, a, w, h, .one step_region_end⟩

theorem hfinS (b : Frame) (k : List Item) (ho : ops[i]? = some o) (v : Value) : (b.at a (.inRegion ops (i :: rest) :: k)).finish v = b.at (a.put o.dst v) (.inRegion ops rest :: k) := by
  rw [Frame.finish_at, ho]; rfl

theorem wpS_value {v : Value} {w' : World} (ho : ops[i]? = some o) (hw : Region.wanted o (yielded ops a.tmps) = true) (hr : (execOp a.eval o).run P w = .ok (.value v) w')
    (h : wpS P ops Q rest (a.put o.dst v) w') : wpS P ops Q (i :: rest) a w := by
  intro b k cs
  obtain ⟨e, a', w'', hq, harr⟩ := h b k cs
  refine ⟨e, a', w'', hq, .of_steps (.one (step_lone_go ?_)) harr⟩
  rw [stepG_op ho hw, ← hfinS b k ho]
  simp [stepG.apply, hr]

theorem stepG_commE {cases : Array CommCase} {blocking : Bool} {shape : CommShape} {w' : World} (b : Frame) (k : List Item) (cs : List Frame) (ho : ops[i]? = some o) (hw : Region.wanted o (yielded ops a.tmps) = true)
    (hr : (execOp a.eval o).run P w = .ok (.comm cases blocking shape) w') :
    ∃ es, stepG P true (G (b.at a (.inRegion ops (i :: rest) :: k)) cs) w = .comm (G (b.at a (.inRegion ops (i :: rest) :: k)) cs) cases blocking shape w' es := by
  have h := stepG_op (P := P) (b := b) (k := k) (cs := cs) (w := w) (rest := rest) ho hw
  have h2 : ∃ es, stepG.apply P true (b.at a (.inRegion ops (i :: rest) :: k)) cs none (execOp a.eval o) w = .comm (G (b.at a (.inRegion ops (i :: rest) :: k)) cs) cases blocking shape w' es := by
    simp only [stepG.apply, Sem.runT_eq, hr, if_true]
    exact ⟨_, rfl⟩
  obtain ⟨es, h2⟩ := h2
  exact ⟨es, h.trans h2⟩

theorem wpS_send {c cap s r : Nat} {buf : Array Value} {tm : Bool} {v z : Value} (ho : ops[i]? = some o) (hw : Region.wanted o (yielded ops a.tmps) = true)
    (hr : (execOp a.eval o).run P w = .ok (.comm #[scase c v z] true .send) w) (hc : w.heap[c]? = some (.chan cap buf false s r tm)) (hroom : buf.size < cap)
    (h : wpS P ops Q rest (a.put o.dst undef) (w.setChan c cap (buf.push v) false (s + 1) r tm)) : wpS P ops Q (i :: rest) a w := by
  intro b k cs
  obtain ⟨e, a', w'', hq, harr⟩ := h b k cs
  obtain ⟨es, hs⟩ := stepG_commE (rest := rest) b k cs ho hw hr
  have := step_lone_send_room hs hc hroom
  rw [hfinS b k ho] at this
  exact ⟨e, a', w'', hq, .of_steps (.one this) harr⟩

theorem wpS_some {c cap s r : Nat} {buf : Array Value} {tm closed : Bool} {z : Value} (ho : ops[i]? = some o) (hw : Region.wanted o (yielded ops a.tmps) = true)
    (hr : (execOp a.eval o).run P w = .ok (.comm #[rcase c z] false .select) w) (hc : w.heap[c]? = some (.chan cap buf closed s r tm)) (hsome : 0 < buf.size)
    (h : wpS P ops Q rest (a.put o.dst (.tuple #[goInt 0, .bool true, buf.getD 0 undef])) (w.setChan c cap (buf.extract 1 buf.size) closed s (r + 1) tm)) : wpS P ops Q (i :: rest) a w := by
  intro b k cs
  obtain ⟨e, a', w'', hq, harr⟩ := h b k cs
  obtain ⟨es, hs⟩ := stepG_commE (rest := rest) b k cs ho hw hr
  have := step_lone_select_recv_buf hs hc hsome
  rw [hfinS b k ho] at this
  exact ⟨e, a', w'', hq, .of_steps (.one this) harr⟩

theorem wpS_none {c cap s r : Nat} {tm : Bool} {z : Value} (ho : ops[i]? = some o) (hw : Region.wanted o (yielded ops a.tmps) = true)
    (hr : (execOp a.eval o).run P w = .ok (.comm #[rcase c z] false .select) w) (hc : w.heap[c]? = some (.chan cap #[] false s r tm))
    (h : wpS P ops Q rest (a.put o.dst (.tuple #[goInt (-1), .bool false, z])) w) : wpS P ops Q (i :: rest) a w := by
  intro b k cs
  obtain ⟨e, a', w'', hq, harr⟩ := h b k cs
  obtain ⟨es, hs⟩ := stepG_commE (rest := rest) b k cs ho hw hr
  have := step_lone_select_default hs hc
  rw [hfinS b k ho] at this
  exact ⟨e, a', w'', hq, .of_steps (.one this) harr⟩
end

end Go.Proofs.YtockkceclkcgbaaGreatDoor

/- The contract of ranges.Add over the nil list, and what an answer's own memory gives to the next call. -/
namespace Go.Proofs.YtockkceclkcgbaaGreatDoor
open Go.RowKit

attribute [local go_sem] over_cell

theorem cells_of_own {w : World} {B g cap : Nat} {L : RL} (h : w.ownsRow B 69 2 (.slice (some ⟨g, 0, none⟩) L.length cap) L.length (flat L)) : Cells w g 0 L := by
  refine ⟨(h.lt g rfl).2, fun i hi => ?_⟩
  have hf := flat_get L i hi
  have e0 := h.cellAt (i * 2) (by omega)
  have e1 := h.cellAt (i * 2 + 1) (by omega)
  rw [Nat.zero_add, e0, e1]
  exact hf

set_option maxHeartbeats 400000 in
theorem add_nil (a b : Int) (w : World) (hr : isR a b = true) :
    Calls Tryz.prog 120 #[.slice none 0 0, .agg #[.int .i64 a, .int .i64 b]] w fun e w' => ∃ g,
      e = .returned (.tuple #[.slice (some ⟨g, 0, none⟩) 1 1, .int .i64 0]) ∧
      w'.ownsRow w.heap.size 69 2 (.slice (some ⟨g, 0, none⟩) 1 1) 1 (flat [(a, b)]) ∧ Below w.heap.size w w' := by
  have hbw : Below w.heap.size w (w.alloc (.cells #[.int .i64 a, .int .i64 b] 69)) := (Below.refl _ _).alloc (Nat.le_refl _) _
  obtain ⟨i0, hi0, hz0, hz1, hz2⟩ := info_parts Tryz.info69
  go_enter Tryz.func120, Tryz.ntmps120
  go_wp2_with fail
  refine (isSet_empty none 0 _).mono ?_
  rintro e w0 ⟨rfl, hb0⟩
  rw [show setB [] = true from rfl]
  have hcl : ∀ o, w0.cell? ⟨w.heap.size, o, none⟩ = (w.alloc (.cells #[.int .i64 a, .int .i64 b] 69)).cell? ⟨w.heap.size, o, none⟩ := fun o => hb0.cell (p := ⟨w.heap.size, o, none⟩) (by simp)
  have hz : w.heap.size < w0.heap.size := by have := hb0.size; simp at this; omega
  go_wp2_with fail
  refine (isRange_any _ _ _).mono ?_
  rintro e w1 ⟨rfl, hb1⟩
  rw [hr]
  have hz' : w.heap.size < w1.heap.size := by have := hb1.size; omega
  go_wp2_with (at_make; refine wpList_make_own _ rfl _ _ 74 rfl (w.heap.size + 1) 69 i0 _ 2 Tryz.underlying74 hi0 hz0 hz1 _ _ _ 1 rfl rfl (by omega) (by rw [hz2]; omega) (by unfold maxLen; omega) (by omega) ?_)
  intro w2 hown0 hgrow0
  have hw1 : Below w.heap.size w w1 := (hbw.trans (hb0.mono (by simp))).trans (hb1.mono (by omega))
  have hI0 : Inv w w1.heap.size 1 0 [] a b w2 := by
    refine ⟨hown0, ?_, hw1.grown hgrow0 hw1.size (fun k h => by cases h)⟩
    rw [hgrow0.block _ (by omega) (by simp), hb1.block _ hz, hb0.block _ (by simp)]
    exact heap_alloc_new w _
  clear hown0 hgrow0 hb1 hb0 hcl hw1 hbw
  generalize w1.heap.size = g at *
  clear w0 w1 hz hz'
  go_wp2
  refine wp_loop_rounds 1 ?_
  rw [rounds_succ]
  go_wp2_with fail
  refine wp_region_over (by kernel_rfl) (by kernel_rfl) ?_
  repeat (go_big_quiet_step (fail))
  refine wpQuiet_nil ?_
  rintro _ ⟨x, rfl⟩
  have hI1 := hI0.on (over_below w2 x)
  clear hI0
  generalize over w2 x = w3 at *
  go_wp2_with fail
  refine wp_loop_rounds 1 ?_
  rw [rounds_succ]
  go_wp2_with fail
  refine wp_region_over (by kernel_rfl) (by kernel_rfl) ?_
  repeat (go_big_quiet_step (fail))
  refine wpQuiet_nil ?_
  rintro _ ⟨x, rfl⟩
  have hI2 := hI1.on (over_below w3 x)
  clear hI1
  generalize over w3 x = w5 at *
  have q0 := hI2.cell0
  have q1 := hI2.cell1
  go_wp2_with (first | (at_builtin; refine wpList_append_fits _ rfl (.tmp 62) (.tmp 64) 74 rfl (w.heap.size + 1) 69 i0 2 Tryz.underlying74 hi0 hz1 g 0 1 _ rfl (hI2.own.alloc _) ⟨w5.heap.size, 0, none⟩ 1 1 (flat [(a, b)]) rfl rfl (by intro t u ht; match t, ht with | 0, ht => simp [flat] at ht; subst ht; simp [Addr.add] | 1, ht => simp [flat] at ht; subst ht; simp [Addr.add]) (by intro u hu; simp [flat] at hu; rcases hu with rfl | rfl <;> rfl) (by omega) ?_; intro w6 hown1 hgrow1; have hI6 := (hI2.on ((Below.refl _ _).alloc (Nat.le_refl _) _)).more hown1 hgrow1) | (at_builtin; refine wpList_append_fits_any _ rfl (.tmp 66) (.tmp 69) 74 rfl (w.heap.size + 1) 69 i0 2 Tryz.underlying74 hi0 hz1 g 1 1 _ rfl hown1 _ 0 _ (flat []) rfl (by simp [flat_length]) (by intro h; exact ⟨rfl, rfl⟩) (by intro ad h; cases h) (flat_oneCell _) (by omega) ?_; intro w7 hown2 hgrow2))
  go_ret2
  have hI7 := hI6.more (m := 0) (ys := []) (by rw [flat_append]; exact hown2) hgrow2
  exact ⟨g, rfl, ownsRow_base hI7.own (Nat.le_succ _), hI7.bel⟩

end Go.Proofs.YtockkceclkcgbaaGreatDoor

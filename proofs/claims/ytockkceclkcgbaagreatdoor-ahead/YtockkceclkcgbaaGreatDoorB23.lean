/- Over any program: a send into a channel with room, and a select of one receive with a default, as steps of a walk. -/
import Derived.Test.YtockkceclkcgbaaGreatDoorB01
import Derived.Conc.LoneSelect
import Derived.Test.YtockkceclkcgbaaGreatDoorB10
import Derived.Test.YtockkceclkcgbaaGreatDoorB12
import Derived.Test.YtockkceclkcgbaaGreatDoorB02
import Derived.Maps.RangeWalk
import Derived.Maps.Ext
import Derived.Lib.SliceRun
import Derived.Test.YtockkceclkcgbaaGreatDoorB22
namespace Go.Proofs.YtockkceclkcgbaaGreatDoor
open Go.RowKit Go.Conc

/-- a region under way, its rest told by the machine's own steps -/
def wpS (P : Program) (ops : Array Oper) (Q : Exit → Act → World → Prop) (l : List Nat) (a : Act) (w : World) : Prop :=
  ∀ (b : Frame) (k : List Item) (cs : List Frame), ∃ e a' w', Q e a' w' ∧ Arrives P (lone (b.at a (.inRegion ops l :: k)) cs w) b k cs e a' w'

section
variable {P : Program} {ops : Array Oper} {Q : Exit → Act → World → Prop} {a : Act} {w : World} {i : Nat} {rest : List Nat} {o : Oper}

theorem wp_region_S {id : Nat} (h : wpS P ops Q (List.range ops.size) a w) : (Code.region id ops false).wp P Q a w :=
  fun b k cs => let ⟨e, a', w', q, r⟩ := h b k cs; ⟨e, a', w', q, .of_steps (.one step_region) r⟩
theorem wpS_nil (h : Q .normal a w) : wpS P ops Q [] a w := fun _ _ _ => ⟨.normal, a, w, h, .one step_region_end⟩

theorem hfinS (b : Frame) (k : List Item) (ho : ops[i]? = some o) (v : Value) : (b.at a (.inRegion ops (i :: rest) :: k)).finish v = b.at (a.put o.dst v) (.inRegion ops rest :: k) := by
  rw [Frame.finish_at, ho]; rfl

theorem wpS_value {v : Value} {w' : World} (ho : ops[i]? = some o) (hw : Region.wanted o (yielded ops a.tmps) = true) (hr : (execOp a.eval o).run P w = .ok (.value v) w')
    (h : wpS P ops Q rest (a.put o.dst v) w') : wpS P ops Q (i :: rest) a w := by
  intro b k cs
  obtain ⟨e, a', w'', hq, harr⟩ := h b k cs
  refine ⟨e, a', w'', hq, .of_steps (.one (step_lone_go ?_)) harr⟩
  rw [stepG_op ho hw, ← hfinS b k ho]
  simp [stepG.apply, hr]

theorem stepG_commE {cases : Array CommCase} {blocking : Bool} {shape : CommShape} {w' : World} (b : Frame) (k : List Item) (cs : List Frame) (ho : ops[i]? = some o) (hw : Region.wanted o (yielded ops a.tmps) = true)
    (hr : (execOp a.eval o).run P w = .ok (.comm cases blocking shape) w') :
    ∃ es, stepG P true (G (b.at a (.inRegion ops (i :: rest) :: k)) cs) w = .comm (G (b.at a (.inRegion ops (i :: rest) :: k)) cs) cases blocking shape w' es := by
  have h := stepG_op (P := P) (b := b) (k := k) (cs := cs) (w := w) (rest := rest) ho hw
  have h2 : ∃ es, stepG.apply P true (b.at a (.inRegion ops (i :: rest) :: k)) cs none (execOp a.eval o) w = .comm (G (b.at a (.inRegion ops (i :: rest) :: k)) cs) cases blocking shape w' es := by
    simp only [stepG.apply, Sem.runT_eq, hr, if_true]
    exact ⟨_, rfl⟩
  obtain ⟨es, h2⟩ := h2
  exact ⟨es, h.trans h2⟩

theorem wpS_send {c cap s r : Nat} {buf : Array Value} {tm : Bool} {v z : Value} (ho : ops[i]? = some o) (hw : Region.wanted o (yielded ops a.tmps) = true)
    (hr : (execOp a.eval o).run P w = .ok (.comm #[scase c v z] true .send) w) (hc : w.heap[c]? = some (.chan cap buf false s r tm)) (hroom : buf.size < cap)
    (h : wpS P ops Q rest (a.put o.dst undef) (w.setChan c cap (buf.push v) false (s + 1) r tm)) : wpS P ops Q (i :: rest) a w := by
  intro b k cs
  obtain ⟨e, a', w'', hq, harr⟩ := h b k cs
  obtain ⟨es, hs⟩ := stepG_commE (rest := rest) b k cs ho hw hr
  have := step_lone_send_room hs hc hroom
  rw [hfinS b k ho] at this
  exact ⟨e, a', w'', hq, .of_steps (.one this) harr⟩

theorem wpS_some {c cap s r : Nat} {buf : Array Value} {tm closed : Bool} {z : Value} (ho : ops[i]? = some o) (hw : Region.wanted o (yielded ops a.tmps) = true)
    (hr : (execOp a.eval o).run P w = .ok (.comm #[rcase c z] false .select) w) (hc : w.heap[c]? = some (.chan cap buf closed s r tm)) (hsome : 0 < buf.size)
    (h : wpS P ops Q rest (a.put o.dst (.tuple #[goInt 0, .bool true, buf.getD 0 undef])) (w.setChan c cap (buf.extract 1 buf.size) closed s (r + 1) tm)) : wpS P ops Q (i :: rest) a w := by
  intro b k cs
  obtain ⟨e, a', w'', hq, harr⟩ := h b k cs
  obtain ⟨es, hs⟩ := stepG_commE (rest := rest) b k cs ho hw hr
  have := step_lone_select_recv_buf hs hc hsome
  rw [hfinS b k ho] at this
  exact ⟨e, a', w'', hq, .of_steps (.one this) harr⟩

theorem wpS_none {c cap s r : Nat} {tm : Bool} {z : Value} (ho : ops[i]? = some o) (hw : Region.wanted o (yielded ops a.tmps) = true)
    (hr : (execOp a.eval o).run P w = .ok (.comm #[rcase c z] false .select) w) (hc : w.heap[c]? = some (.chan cap #[] false s r tm))
    (h : wpS P ops Q rest (a.put o.dst (.tuple #[goInt (-1), .bool false, z])) w) : wpS P ops Q (i :: rest) a w := by
  intro b k cs
  obtain ⟨e, a', w'', hq, harr⟩ := h b k cs
  obtain ⟨es, hs⟩ := stepG_commE (rest := rest) b k cs ho hw hr
  have := step_lone_select_default hs hc
  rw [hfinS b k ho] at this
  exact ⟨e, a', w'', hq, .of_steps (.one this) harr⟩
end

end Go.Proofs.YtockkceclkcgbaaGreatDoor

/- The contract of ranges.Add over the nil list, and what an answer's own memory gives to the next call. -/
namespace Go.Proofs.YtockkceclkcgbaaGreatDoor
open Go.RowKit

attribute [local go_sem] over_cell

theorem cells_of_own {w : World} {B g cap : Nat} {L : RL} (h : w.ownsRow B 69 2 (.slice (some ⟨g, 0, none⟩) L.length cap) L.length (flat L)) : Cells w g 0 L := by
  refine ⟨(h.lt g rfl).2, fun i hi => ?_⟩
  have hf := flat_get L i hi
  have e0 := h.cellAt (i * 2) (by omega)
  have e1 := h.cellAt (i * 2 + 1) (by omega)
  rw [Nat.zero_add, e0, e1]
  exact hf

set_option maxHeartbeats 400000 in
theorem add_nil (a b : Int) (w : World) (hr : isR a b = true) :
    Calls Tryz.prog 120 #[.slice none 0 0, .agg #[.int .i64 a, .int .i64 b]] w fun e w' => ∃ g,
      e = .returned (.tuple #[.slice (some ⟨g, 0, none⟩) 1 1, .int .i64 0]) ∧
      w'.ownsRow w.heap.size 69 2 (.slice (some ⟨g, 0, none⟩) 1 1) 1 (flat [(a, b)]) ∧ Below w.heap.size w w' := by
  have hbw : Below w.heap.size w (w.alloc (.cells #[.int .i64 a, .int .i64 b] 69)) := (Below.refl _ _).alloc (Nat.le_refl _) _
  obtain ⟨i0, hi0, hz0, hz1, hz2⟩ := info_parts Tryz.info69
  go_enter Tryz.func120, Tryz.ntmps120
  go_wp2_with fail
  refine (isSet_empty none 0 _).mono ?_
  rintro e w0 ⟨rfl, hb0⟩
  rw [show setB [] = true from rfl]
  have hcl : ∀ o, w0.cell? ⟨w.heap.size, o, none⟩ = (w.alloc (.cells #[.int .i64 a, .int .i64 b] 69)).cell? ⟨w.heap.size, o, none⟩ := fun o => hb0.cell (p := ⟨w.heap.size, o, none⟩) (by simp)
  have hz : w.heap.size < w0.heap.size := by have := hb0.size; simp at this; omega
  go_wp2_with fail
  refine (isRange_any _ _ _).mono ?_
  rintro e w1 ⟨rfl, hb1⟩
  rw [hr]
  have hz' : w.heap.size < w1.heap.size := by have := hb1.size; omega
  go_wp2_with (at_make; refine wpList_make_own _ rfl _ _ 74 rfl (w.heap.size + 1) 69 i0 _ 2 Tryz.underlying74 hi0 hz0 hz1 _ _ _ 1 rfl rfl (by omega) (by rw [hz2]; omega) (by unfold maxLen; omega) (by omega) ?_)
  intro w2 hown0 hgrow0
  have hw1 : Below w.heap.size w w1 := (hbw.trans (hb0.mono (by simp))).trans (hb1.mono (by omega))
  have hI0 : Inv w w1.heap.size 1 0 [] a b w2 := by
    refine ⟨hown0, ?_, hw1.grown hgrow0 hw1.size (fun k h => by cases h)⟩
    rw [hgrow0.block _ (by omega) (by simp), hb1.block _ hz, hb0.block _ (by simp)]
    exact heap_alloc_new w _
  clear hown0 hgrow0 hb1 hb0 hcl hw1 hbw
  generalize w1.heap.size = g at *
  clear w0 w1 hz hz'
  go_wp2
  refine wp_loop_rounds 1 ?_
  rw [rounds_succ]
  go_wp2_with fail
  refine wp_region_over (by kernel_rfl) (by kernel_rfl) ?_
  repeat (go_big_quiet_step (fail))
  refine wpQuiet_nil ?_
  rintro _ ⟨x, rfl⟩
  have hI1 := hI0.on (over_below w2 x)
  clear hI0
  generalize over w2 x = w3 at *
  go_wp2_with fail
  refine wp_loop_rounds 1 ?_
  rw [rounds_succ]
  go_wp2_with fail
  refine wp_region_over (by kernel_rfl) (by kernel_rfl) ?_
  repeat (go_big_quiet_step (fail))
  refine wpQuiet_nil ?_
  rintro _ ⟨x, rfl⟩
  have hI2 := hI1.on (over_below w3 x)
  clear hI1
  generalize over w3 x = w5 at *
  have q0 := hI2.cell0
  have q1 := hI2.cell1
  go_wp2_with (first | (at_builtin; refine wpList_append_fits _ rfl (.tmp 62) (.tmp 64) 74 rfl (w.heap.size + 1) 69 i0 2 Tryz.underlying74 hi0 hz1 g 0 1 _ rfl (hI2.own.alloc _) ⟨w5.heap.size, 0, none⟩ 1 1 (flat [(a, b)]) rfl rfl (by intro t u ht; match t, ht with | 0, ht => simp [flat] at ht; subst ht; simp [Addr.add] | 1, ht => simp [flat] at ht; subst ht; simp [Addr.add]) (by intro u hu; simp [flat] at hu; rcases hu with rfl | rfl <;> rfl) (by omega) ?_; intro w6 hown1 hgrow1; have hI6 := (hI2.on ((Below.refl _ _).alloc (Nat.le_refl _) _)).more hown1 hgrow1) | (at_builtin; refine wpList_append_fits_any _ rfl (.tmp 66) (.tmp 69) 74 rfl (w.heap.size + 1) 69 i0 2 Tryz.underlying74 hi0 hz1 g 1 1 _ rfl hown1 _ 0 _ (flat []) rfl (by simp [flat_length]) (by intro h; exact ⟨rfl, rfl⟩) (by intro ad h; cases h) (flat_oneCell _) (by omega) ?_; intro w7 hown2 hgrow2))
  go_ret2
  have hI7 := hI6.more (m := 0) (ys := []) (by rw [flat_append]; exact hown2) hgrow2
  exact ⟨g, rfl, ownsRow_base hI7.own (Nat.le_succ _), hI7.bel⟩

end Go.Proofs.YtockkceclkcgbaaGreatDoor

/- The program's queue and its groups as they lie in memory: maps of tries, of waits, of groups; a list that begins within its row. -/
namespace Go.Proofs.YtockkceclkcgbaaGreatDoor
open Go.RowKit Go.Maps

/-- the blocks of the queue of number i: r says which, k of which group -/
abbrev Tag.q (i r k : Nat) : Tag := ⟨5, i, r, k⟩

theorem law3 : Keyed Tryz.prog 3 := int_keyed Tryz.underlying3
theorem zeroI (w : World) : (zeroValue 3).run Tryz.prog w = .ok (.int .i64 0) w := by kernel_rfl
theorem zeroW (w : World) : (zeroValue 177).run Tryz.prog w = .ok (.agg #[.int .i64 0, .bool false]) w := by kernel_rfl
theorem zeroP (w : World) : (zeroValue 129).run Tryz.prog w = .ok (.pointer none) w := by kernel_rfl
theorem infoS : (Tryz.prog.info? 9).map (fun i => (i.zero, i.size, i.bytes)) = some (some (.string ⟨#[]⟩), 1, 16) := by kernel_rfl
theorem wfI {n : Int} (h : i64 n) : (Lit.int .i64 n).wf = true := WalkArith.wf_i64 ⟨h.1, h.2⟩

/-! how a wait reads -/
abbrev waitV (u : Int × Bool) : Value := .agg #[.int .i64 u.1, .bool u.2]
def waitD (u : Int × Bool) : DataW Unit := .agg [.lit (.int .i64 u.1), .lit (.bool u.2)]
def waitElem : Value → Option (DataW Unit × List MemPlace)
  | .agg cs => match cs.toList with
    | [.int .i64 u, .bool l] => some (waitD (u, l), [])
    | _ => none
  | _ => none
theorem waitElem_mk (u : Int × Bool) : waitElem (waitV u) = some (waitD u, []) := rfl
theorem waitElem_inv {v : Value} {y : DataW Unit × List MemPlace} (h : waitElem v = some y) : ∃ u, v = waitV u ∧ y = (waitD u, []) := by
  unfold waitElem at h
  split at h
  · rename_i cs
    split at h
    · rename_i u l e
      refine ⟨(u, l), ?_, (Option.some.inj h).symm⟩
      have : cs = #[.int .i64 u, .bool l] := by rw [← Array.toArray_toList (xs := cs), e]
      rw [this]
    · cases h
  · cases h
theorem waitD_inj {u v : Int × Bool} (h : waitD u = waitD v) : u = v := by
  obtain ⟨a, b⟩ := u
  obtain ⟨c, d⟩ := v
  simp [waitD] at h
  rw [h.1, h.2]

/-! how a group's pointer reads -/
def ptrElem : Value → Option (DataW Unit × List MemPlace)
  | .pointer (some ⟨b, 0, none⟩) => some (.lit (.int .i64 b), [])
  | .pointer none => some (.nil, [])
  | _ => none
theorem ptrElem_mk (b : Nat) : ptrElem (ptrV b) = some (.lit (.int .i64 b), []) := rfl
theorem ptrElem_inv {v : Value} {b : Nat} {ps : List MemPlace} (h : ptrElem v = some (.lit (.int .i64 b), ps)) : v = ptrV b := by
  unfold ptrElem at h
  split at h
  · rename_i c
    simp at h
    have : c = b := by omega
    rw [← this]; rfl
  · simp at h
  · cases h
theorem ptrElem_nil {v : Value} {ps : List MemPlace} (h : ptrElem v = some (.nil, ps)) : v = .pointer none := by
  unfold ptrElem at h
  split at h
  · simp at h
  · rfl
  · cases h

/-! few keys -/
theorem nodup_few : ∀ (n : Nat) (l : List Nat), l.Nodup → (∀ x ∈ l, x < n) → l.length ≤ n
  | 0, l, _, h => by
    cases l with
    | nil => simp
    | cons x r => have := h x (by simp); omega
  | n + 1, l, hn, h => by
    have h1 := nodup_few n (l.erase n) (hn.erase n) (fun x hx => by
      have h2 := (hn.mem_erase_iff).1 hx
      have := h x h2.2
      omega)
    have h3 : l.length ≤ (l.erase n).length + 1 := by
      by_cases hm : n ∈ l
      · rw [List.length_erase_of_mem hm]; omega
      · rw [List.erase_of_not_mem hm]; omega
    omega
def litN : Lit → Nat
  | .int _ x => x.toNat
  | _ => 0
theorem ownsMap_few {R : Value → Option (DataW Unit × List MemPlace)} {w : World} {b n : Nat} {D : DataW Unit} (h : w.ownsMap Tryz.prog 3 R b n D) (hk : ∀ x : Int, Maps.has D (.int .i64 x) = true → 0 ≤ x ∧ x < 400) : w.ownsMap Tryz.prog 3 R b 400 D := by
  obtain ⟨es, clock, hb, F, hs2, hD⟩ := h
  refine ⟨es, clock, hb, F, ?_, hD⟩
  have hkeys := fit_keys F
  have hap := fit_apart law3 F
  have hin : ∀ p ∈ es.toList.map (WideElems.rg Tryz.prog 3 R), ∃ x : Int, p.1 = .int .i64 x ∧ 0 ≤ x ∧ x < 400 := by
    intro p hp
    obtain ⟨v, hv⟩ := hkeys p hp
    obtain ⟨x, _, e, _⟩ := keyOf_int_inv Tryz.underlying3 hv
    refine ⟨x, e, hk x ?_⟩
    rw [hD, has_eq, List.any_eq_true]
    exact ⟨p, mem_sorted.2 hp, by rw [e]; exact WideAt.sameKey_self trivial⟩
  have h1 : ((es.toList.map (WideElems.rg Tryz.prog 3 R)).map (fun p => litN p.1)).Nodup := by
    refine List.Pairwise.map _ (fun p q hpq => ?_) ((List.Pairwise.and_mem.1 hap))
    obtain ⟨hp, hq, hne⟩ := hpq
    obtain ⟨x, e1, x0, _⟩ := hin p hp
    obtain ⟨y, e2, y0, _⟩ := hin q hq
    intro e
    rw [e1, e2] at e hne
    simp [litN] at e
    exact hne (by congr 1; omega)
  have h2 := nodup_few 400 _ h1 (by
    intro x hx
    obtain ⟨p, hp, rfl⟩ := List.mem_map.1 hx
    obtain ⟨x, e, x0, x1⟩ := hin p hp
    rw [e]
    simp [litN]
    omega)
  simpa using h2

/-- Block b is the map of tries f. -/
def TM (w : World) (T : Nat → Tag) (t : Tag) (b : Nat) (f : Int → Int) : Prop :=
  T b = t ∧ ∃ D : DataW Unit, w.ownsMap Tryz.prog 3 (plainElem Tryz.prog 3) b 400 D ∧ (∀ k, D.atKey (.int .i64 k) (.lit (.int .i64 0)) = .lit (.int .i64 (f k))) ∧ ∀ k, Maps.has D (.int .i64 k) = true → 0 ≤ k ∧ k < 400
/-- Block b is the map of waits f. -/
def WM (w : World) (T : Nat → Tag) (t : Tag) (b : Nat) (f : Int → Option (Int × Bool)) : Prop :=
  T b = t ∧ ∃ D : DataW Unit, w.ownsMap Tryz.prog 3 waitElem b 400 D ∧ (∀ k, Maps.has D (.int .i64 k) = (f k).isSome) ∧ (∀ k u, f k = some u → ∀ z, D.atKey (.int .i64 k) z = waitD u) ∧ ∀ k, (f k).isSome = true → 0 ≤ k ∧ k < 400
/-- Block b is the map of the groups: of the k-th name the block f k. -/
def NM (w : World) (T : Nat → Tag) (t : Tag) (b : Nat) (names : List ByteArray) (f : Nat → Nat) : Prop :=
  T b = t ∧ ∃ (n : Nat) (D : DataW Unit), w.ownsMap Tryz.prog 9 ptrElem b n D ∧ Maps.size D = names.length ∧ (∀ s, Maps.has D (keyL s) = (idx s names).isSome) ∧ ∀ s k, idx s names = some k → ∀ z, D.atKey (keyL s) z = .lit (.int .i64 (f k))

theorem TM.step {S : Tag → Prop} {w w' : World} {T T' : Nat → Tag} {t : Tag} {b : Nat} {f : Int → Int} (h : TM w T t b f) (hs : Step S w T w' T') (ht : ¬ S t) : TM w' T' t b f := by
  obtain ⟨h1, D, h2, h3⟩ := h
  exact ⟨(hs.tag b h2.lt).trans h1, D, ownsMap_step h2 hs (by rw [h1]; exact ht), h3⟩
theorem WM.step {S : Tag → Prop} {w w' : World} {T T' : Nat → Tag} {t : Tag} {b : Nat} {f : Int → Option (Int × Bool)} (h : WM w T t b f) (hs : Step S w T w' T') (ht : ¬ S t) : WM w' T' t b f := by
  obtain ⟨h1, D, h2, h3⟩ := h
  exact ⟨(hs.tag b h2.lt).trans h1, D, ownsMap_step h2 hs (by rw [h1]; exact ht), h3⟩
theorem NM.step {S : Tag → Prop} {w w' : World} {T T' : Nat → Tag} {t : Tag} {b : Nat} {names : List ByteArray} {f : Nat → Nat} (h : NM w T t b names f) (hs : Step S w T w' T') (ht : ¬ S t) : NM w' T' t b names f := by
  obtain ⟨h1, n, D, h2, h3⟩ := h
  exact ⟨(hs.tag b h2.lt).trans h1, n, D, ownsMap_step h2 hs (by rw [h1]; exact ht), h3⟩
theorem TM.lt {w : World} {T : Nat → Tag} {t : Tag} {b : Nat} {f : Int → Int} (h : TM w T t b f) : b < w.heap.size := by obtain ⟨_, _, h, _⟩ := h; exact h.lt
theorem WM.lt {w : World} {T : Nat → Tag} {t : Tag} {b : Nat} {f : Int → Option (Int × Bool)} (h : WM w T t b f) : b < w.heap.size := by obtain ⟨_, _, h, _⟩ := h; exact h.lt
theorem NM.lt {w : World} {T : Nat → Tag} {t : Tag} {b : Nat} {names : List ByteArray} {f : Nat → Nat} (h : NM w T t b names f) : b < w.heap.size := by obtain ⟨_, _, _, h, _⟩ := h; exact h.lt

/-- A list that may begin within its row (the first ones were cut off). -/
def Sub (w : World) (T : Nat → Tag) (t : Tag) (v : Value) (xs : List Value) : Prop :=
  ∃ ao cap, v = .slice ao xs.length cap ∧ xs.length ≤ cap ∧ (cap = 0 ∨ ∃ g off cur, ao = some ⟨g, off, none⟩ ∧ T g = t ∧ w.heap[g]? = some (.cells cur 9 (0, 0)) ∧ cur.size = off + cap ∧ (cur.toList.drop off).take xs.length = xs)
theorem Sub.step {S : Tag → Prop} {w w' : World} {T T' : Nat → Tag} {t : Tag} {v : Value} {xs : List Value} (h : Sub w T t v xs) (hs : Step S w T w' T') (ht : ¬ S t) : Sub w' T' t v xs := by
  obtain ⟨ao, cap, h1, h2, h3⟩ := h
  refine ⟨ao, cap, h1, h2, h3.imp id ?_⟩
  rintro ⟨g, off, cur, e, hT, hg, rest⟩
  have hlt := (Array.getElem?_eq_some_iff.1 hg).1
  exact ⟨g, off, cur, e, (hs.tag g hlt).trans hT, (hs.block g hlt (by rw [hT]; exact ht)).trans hg, rest⟩
theorem sub_nil (w : World) (T : Nat → Tag) (t : Tag) : Sub w T t (.slice none 0 0) [] := ⟨none, 0, rfl, Nat.le_refl _, .inl rfl⟩
/-- an element of the list -/
theorem Sub.cell {w : World} {T : Nat → Tag} {t : Tag} {v : Value} {xs : List Value} {j : Nat} {u : Value} (h : Sub w T t v xs) (hj : xs[j]? = some u) : ∃ g off cap, v = .slice (some ⟨g, off, none⟩) xs.length cap ∧ w.cell? ⟨g, off + j, none⟩ = some u ∧ g < w.heap.size := by
  have hlt := (List.getElem?_eq_some_iff.1 hj).1
  obtain ⟨ao, cap, h1, h2, h3 | ⟨g, off, cur, rfl, hT, hg, hs, hx⟩⟩ := h
  · omega
  · refine ⟨g, off, cap, h1, ?_, (Array.getElem?_eq_some_iff.1 hg).1⟩
    have hj2 : ((cur.toList.drop off).take xs.length)[j]? = some u := by rw [hx]; exact hj
    rw [List.getElem?_take, if_pos hlt, List.getElem?_drop] at hj2
    simp only [World.cell?, hg]
    simpa using hj2

theorem take_drop_snoc (l : List Value) (off n : Nat) (u : Value) (r : List Value) (xs : List Value) (h : (l.drop off).take n = xs) (hx : xs.length = n) (hl : off + n ≤ l.length) :
    ((l.take (off + n) ++ [u] ++ r).drop off).take (n + 1) = xs ++ [u] := by
  have e : l.take (off + n) = l.take off ++ (l.drop off).take n := by rw [List.take_add]
  rw [e, h, List.append_assoc, List.append_assoc, List.drop_append_of_le_length (by simp; omega)]
  have : (l.take off).drop off = [] := List.drop_eq_nil_of_le (by simp; omega)
  rw [this, List.nil_append, ← List.append_assoc, List.take_append_of_le_length (by simp [hx])]
  rw [List.take_of_length_le (by simp [hx])]

/-- append of one element -/
theorem run_append_sub {w : World} {T : Nat → Tag} {t : Tag} (ty : TypeId) (v : Value) (xs : List Value) (hsub : Sub w T t v xs) (a : Addr) (u : Value) (hu : w.cell? a = some u) (h1 : u.oneCell' = true) (ha : a.add 0 = a) (hn : xs.length ≤ 4096) :
    ∃ v' w' T', (Builtin.append_ #[54, 54] ty #[v, .slice (some a) 1 1]).run Tryz.prog w = .ok v' w' ∧ Sub w' T' t v' (xs ++ [u]) ∧ Step (fun s => s = t) w T w' T' := by
  obtain ⟨i0, hi, hz0, hz1, hz2⟩ := info_parts infoS
  have hnews : ∀ j x, [u][j]? = some x → w.cell? (a.add j) = some x := by
    intro j x hj
    cases j with
    | zero => simp at hj; subst hj; rw [ha]; exact hu
    | succ j => simp at hj
  have hnew : ∀ (o : Obj), Step (fun s => s = t) w T (w.drew.alloc o) (retag T w.heap.size t) := fun o => by
    have := (step_below (fun s => s = t) T ((Below.refl w.heap.size w).drew)).trans (step_new w.drew T o t (fun s => s = t))
    exact this
  have hblk : ∀ (cs : Array Value), (w.drew.alloc (.cells cs 9)).heap[w.heap.size]? = some (.cells cs 9 (0, 0)) := fun cs => heap_alloc_new w.drew _
  obtain ⟨ao, cap, rfl, hc, hrest⟩ := hsub
  by_cases hroom : xs.length + 1 ≤ cap
  · rcases hrest with h0 | ⟨g, off, cur, rfl, hT, hg, hs, hx⟩
    · omega
    · have hf := run_firstCells_some (P := Tryz.prog) w i0.size 1 a 1 1 [u] (by rw [hz1]; rfl) hnews
      have hst := run_storeCells_at Tryz.prog g (off + xs.length) 9 [u] 0 cur w hg (by simp; omega) (by simpa using h1)
      simp only [Nat.add_zero] at hst
      have hsz : (xs.length : Nat) * i0.size = xs.length := by rw [hz1]; omega
      have hw : (w.setRow g (cur.toList.take (off + xs.length) ++ [u] ++ cur.toList.drop (off + xs.length + [u].length)).toArray).heap[g]? = some (.cells (cur.toList.take (off + xs.length) ++ [u] ++ cur.toList.drop (off + xs.length + [u].length)).toArray 9 (0, 0)) := setRow_heap w g cur _ 9 _ hg
      refine ⟨.slice (some ⟨g, off, none⟩) (xs.length + 1) cap, w.setRow g (cur.toList.take (off + xs.length) ++ [u] ++ cur.toList.drop (off + xs.length + [u].length)).toArray, T, ?_, ⟨_, cap, by simp, by simpa using hroom, .inr ⟨g, off, _, rfl, hT, hw, ?_, ?_⟩⟩, ?_⟩
      · simp [Builtin.append_, run_underlying Tryz.underlying54, sizeOf, typeInfo, hi, Builtin.lenOf, hroom, hf, Addr.add_lit, hsz, hst]
      · simp; omega
      · simp only [List.length_append, List.length_cons, List.length_nil, Nat.zero_add]
        exact take_drop_snoc _ off xs.length u _ xs hx rfl (by simp; omega)
      · exact step_kept ⟨rfl, rfl, rfl, by simp [World.setRow], fun k _ hk => setRow_other w g k _ hk⟩ (fun k _ hk => by rw [show k = g from hk]; exact hT) (fun _ _ => rfl)
  · have hcap : cap = xs.length := by omega
    cases ao with
    | none =>
      have h0 : cap = 0 := by
        rcases hrest with h0 | ⟨g, off, cur, e, _⟩
        · exact h0
        · cases e
      have hx0 : xs = [] := List.eq_nil_of_length_eq_zero (by omega)
      subst hx0
      subst h0
      have hr := run_append_nil (P := Tryz.prog) w 54 ty 9 i0 _ Tryz.underlying54 hi hz0 a 1 1 [u] (by rw [hz1]; rfl) hnews (by decide) (by decide) (by rw [hz2]; decide)
      refine ⟨_, _, _, hr, ⟨some ⟨w.heap.size, 0, none⟩, grownCap w 1 0 9, rfl, grownCap_ge _ _ _ _, .inr ⟨w.heap.size, 0, _, rfl, retag_same _ _ _, hblk _, ?_, ?_⟩⟩, hnew _⟩
      · have := grownCap_ge w 1 0 9
        simp [size_zeroCells]
        rw [show (Value.string ⟨#[]⟩).cells.size = 1 from rfl]
        omega
      · simp
    | some b =>
      have holds : ∀ j x, xs[j]? = some x → w.cell? (b.add j) = some x := by
        intro j x hj
        have hjl := (List.getElem?_eq_some_iff.1 hj).1
        rcases hrest with h0 | ⟨g, off, cur, e, hT, hg, hs, hx⟩
        · omega
        · cases e
          rw [← hx, List.getElem?_take, if_pos hjl, List.getElem?_drop] at hj
          rw [Addr.add_lit]
          simp only [World.cell?, hg]
          simpa using hj
      have hr := run_append_grow (P := Tryz.prog) w 54 ty 9 i0 _ Tryz.underlying54 hi hz0 b xs.length cap xs (by rw [hz1]; omega) holds a 1 1 [u] (by rw [hz1]; rfl) hnews (by omega) (by omega) (growslice_fits (by omega) (by rw [hz2]; omega))
      refine ⟨_, _, _, hr, ⟨some ⟨w.heap.size, 0, none⟩, grownCap w (xs.length + 1) cap 9, by simp, by simpa using grownCap_ge w (xs.length + 1) cap 9, .inr ⟨w.heap.size, 0, _, rfl, retag_same _ _ _, hblk _, ?_, ?_⟩⟩, hnew _⟩
      · have := grownCap_ge w (xs.length + 1) cap 9
        simp [size_zeroCells]
        rw [show (Value.string ⟨#[]⟩).cells.size = 1 from rfl]
        omega
      · rw [List.drop_zero, Array.toList_append, Array.toList_append, List.take_append_of_le_length (by simp)]
        exact List.take_of_length_le (by simp)

theorem wpList_append_sub {w : World} {T : Nat → Tag} {t : Tag} {ops : Array Oper} {rest : List Oper} {o : Oper} {a : Act} {Q : Exit → Act → World → Prop} (hgd : o.guard = none) (s x : Operand)
    (ho : o.op = .call { callee := .builtin .append, args := #[s, x], argTypes := #[54, 54] }) (v : Value) (xs : List Value) (hs : a.eval s = v) (hsub : Sub w T t v xs)
    (ad : Addr) (u : Value) (hx : a.eval x = .slice (some ad) 1 1) (hu : w.cell? ad = some u) (h1 : u.oneCell' = true) (ha : ad.add 0 = ad) (hn : xs.length ≤ 4096)
    (h : ∀ v' w' T', Sub w' T' t v' (xs ++ [u]) → Step (fun s => s = t) w T w' T' → wpList Tryz.prog ops Q rest (a.put o.dst v') w') : wpList Tryz.prog ops Q (o :: rest) a w := by
  refine wpList_plain hgd fun K hK => ?_
  obtain ⟨v', w', T', hr, h2, h3⟩ := run_append_sub o.type v xs hsub ad u hu h1 ha hn
  unfold Oper.wp execOp
  simp only [ho, resolve, invoke, builtin, Sem.run_bind, Sem.run_pure, Result.andThen_ok, List.map_toArray, List.map_cons, List.map_nil, hs, hx, hr]
  exact hK _ _ (h v' w' T' h2 h3)

/-! look-ups -/
section
variable {w : World} {T : Nat → Tag} {t : Tag} {ops : Array Oper} {rest : List Oper} {o : Oper} {a : Act} {Q : Exit → Act → World → Prop}
theorem wpList_lookup_try (hg : o.guard = none) (m x : Operand) (hop : o.op = Op.lookup 131 m x false) (b : Nat) (f : Int → Int) (hm : a.eval m = .map (some b)) (h : TM w T t b f) (n : Int) (hx : a.eval x = .int .i64 n) (hn : i64 n)
    (hK : wpList Tryz.prog ops Q rest (a.put o.dst (.int .i64 (f n))) w) : wpList Tryz.prog ops Q (o :: rest) a w := by
  obtain ⟨_, D, hown, hat, _⟩ := h
  refine wpList_lookup_own_int _ hg m x 131 hop 3 3 .i64 law3 Tryz.underlying131 Tryz.underlying3 (zeroI _) b _ _ hm hown _ _ hx (keyOf_int_mk Tryz.underlying3 (wfI hn)) ?_
  intro c hc _
  rw [hat n] at hc
  have : f n = c := by simpa using hc
  rw [← this]; exact hK
theorem WM.look {b : Nat} {f : Int → Option (Int × Bool)} (h : WM w T t b f) {n : Int} (hn : i64 n) : (Instr.lookup 132 (.map (some b)) (.int .i64 n) false).run Tryz.prog w = .ok (waitV ((f n).getD (0, false))) w ∧
    (Instr.lookup 132 (.map (some b)) (.int .i64 n) true).run Tryz.prog w = .ok (.tuple #[waitV ((f n).getD (0, false)), .bool (f n).isSome]) w := by
  obtain ⟨_, D, hown, hhas, hat, _⟩ := h
  have hkey := keyOf_int_mk Tryz.underlying3 (wfI hn)
  have hD : D.atKey (.int .i64 n) (waitD (0, false)) = waitD ((f n).getD (0, false)) := by
    cases hf : f n with
    | none => rw [atKey_of_not_has (by rw [hhas, hf]; rfl)]; rfl
    | some u => rw [hat n u hf]; rfl
  constructor
  · obtain ⟨v, ps, hr, hv⟩ := hown.lookup law3 Tryz.underlying132 (zeroW _) (zd := waitD (0, false)) (zp := []) rfl hkey
    rw [hD] at hv
    obtain ⟨u, rfl, e⟩ := waitElem_inv hv
    have := waitD_inj (congrArg Prod.fst e)
    rw [hr, this]
  · obtain ⟨v, ps, hr, hv⟩ := hown.look_ok law3 Tryz.underlying132 (zeroW _) (zd := waitD (0, false)) (zp := []) rfl hkey
    rw [hD] at hv
    obtain ⟨u, rfl, e⟩ := waitElem_inv hv
    have := waitD_inj (congrArg Prod.fst e)
    rw [hr, this, hhas]
theorem wpList_lookup_wait (hg : o.guard = none) (m x : Operand) (hop : o.op = Op.lookup 132 m x false) (b : Nat) (f : Int → Option (Int × Bool)) (hm : a.eval m = .map (some b)) (h : WM w T t b f) (n : Int) (hx : a.eval x = .int .i64 n) (hn : i64 n)
    (hK : wpList Tryz.prog ops Q rest (a.put o.dst (waitV ((f n).getD (0, false)))) w) : wpList Tryz.prog ops Q (o :: rest) a w := by
  refine wpList_plain hg fun K' hK' => ?_
  have hr := (h.look hn).1
  unfold Oper.wp
  simp [execOp, hop, hm, hx, hr, Result.andThen]
  exact hK' _ _ hK
theorem wpList_lookup_waits (hg : o.guard = none) (m x : Operand) (hop : o.op = Op.lookup 132 m x true) (b : Nat) (f : Int → Option (Int × Bool)) (hm : a.eval m = .map (some b)) (h : WM w T t b f) (n : Int) (hx : a.eval x = .int .i64 n) (hn : i64 n)
    (hK : wpList Tryz.prog ops Q rest (a.put o.dst (.tuple #[waitV ((f n).getD (0, false)), .bool (f n).isSome])) w) : wpList Tryz.prog ops Q (o :: rest) a w := by
  refine wpList_plain hg fun K' hK' => ?_
  have hr := (h.look hn).2
  unfold Oper.wp
  simp [execOp, hop, hm, hx, hr, Result.andThen]
  exact hK' _ _ hK
/-- the pointer of a group: nil where there is none -/
def ptrO : Option Nat → Value
  | none => .pointer none
  | some b => ptrV b
theorem wpList_lookup_grp (hg : o.guard = none) (m x : Operand) (hop : o.op = Op.lookup 99 m x false) (b : Nat) (names : List ByteArray) (f : Nat → Nat) (hm : a.eval m = .map (some b)) (h : NM w T t b names f) (s : ByteArray) (hx : a.eval x = .string s) (hs : s.size ≤ maxLen)
    (hK : wpList Tryz.prog ops Q rest (a.put o.dst (ptrO ((idx s names).map f))) w) : wpList Tryz.prog ops Q (o :: rest) a w := by
  obtain ⟨_, n, D, hown, hsz, hhas, hat⟩ := h
  have hkey : keyOf Tryz.prog 9 (.string s) = some (keyL s) := Go.WideMaps.keyOf_string_mk Tryz.underlying9 hs
  refine wpList_plain hg fun K' hK' => ?_
  obtain ⟨v, ps, hr, hv⟩ := hown.lookup law9 Tryz.underlying99 (zeroP _) (zd := .nil) (zp := []) rfl hkey
  have hv2 : v = ptrO ((idx s names).map f) := by
    cases hi : idx s names with
    | none =>
      rw [atKey_of_not_has (by rw [hhas, hi]; rfl)] at hv
      exact ptrElem_nil hv
    | some k =>
      rw [hat s k hi] at hv
      exact ptrElem_inv hv
  subst hv2
  unfold Oper.wp
  simp [execOp, hop, hm, hx, hr, Result.andThen]
  exact hK' _ _ hK
end

end Go.Proofs.YtockkceclkcgbaaGreatDoor

/- The contracts of putNumber, putText and putNumbers: what they write behind a row of bytes. -/
namespace Go.Proofs.YtockkceclkcgbaaGreatDoor
open Go.RowKit

theorem wpList_append_bytes {w : World} {T : Nat → Tag} {t : Tag} {ops : Array Oper} {rest : List Oper} {o : Oper} {a : Act} {Q : Exit → Act → World → Prop} (hgd : o.guard = none) (s x : Operand) (tx : TypeId)
    (ho : o.op = .call { callee := .builtin .append, args := #[s, x], argTypes := #[100, tx] }) (v : Value) (l : Bs) (hs : a.eval s = v) (hR : BRow w T t v l) (y : Value) (news : Bs) (hx : a.eval x = y) (hsrc : Src Tryz.prog 1 tx y news.length (byteL news) w) (hb : l.length + news.length ≤ 140737488351232)
    (h : ∀ v' w' T', BRow w' T' t v' (l ++ news) → Step (fun s => s = t) w T w' T' → wpList Tryz.prog ops Q rest (a.put o.dst v') w') : wpList Tryz.prog ops Q (o :: rest) a w := by
  refine wpList_plain hgd fun K hK => ?_
  obtain ⟨v', w', T', hr, h2, h3⟩ := run_append_bytes tx o.type v l hR y news hsrc hb
  unfold Oper.wp execOp
  simp only [ho, resolve, invoke, builtin, Sem.run_bind, Sem.run_pure, Result.andThen_ok, List.map_toArray, List.map_cons, List.map_nil, hs, hx, hr]
  exact hK _ _ (h v' w' T' h2 h3)
/-- one byte, as the row of one that is appended -/
theorem src_byte (w : World) (g : Nat) (b : UInt8) (h : w.cell? ⟨g, 0, none⟩ = some (byteV b)) : Src Tryz.prog 1 100 (.slice (some ⟨g, 0, none⟩) 1 1) 1 (byteL [b]) w := by
  refine Src.ofSlice w Tryz.underlying100 ⟨g, 0, none⟩ 1 1 (byteL [b]) rfl (fun j u hj => ?_) (byteL_one _)
  cases j with
  | zero => simp [byteL] at hj; subst hj; simpa [Addr.add_lit] using h
  | succ j => simp [byteL] at hj

attribute [local go_sem] over_cell

set_option maxRecDepth 100000 in
set_option maxHeartbeats 1000000 in
theorem putNumber_any (t : Tag) (v : Value) (l : Bs) (n : Nat) (width : Nat) (w : World) (T : Nat → Tag) (h : BRow w T t v l) (_hn : n ≤ 4611686018427387904) (hw : width ≤ 7) (hl : l.length ≤ 100000000000000) :
    Calls Tryz.prog 79 #[v, .int .i64 n, .int .i64 width] w fun e w' => ∃ v' T', e = .returned v' ∧ Step (fun s => s = t) w T w' T' ∧ BRow w' T' t v' (l ++ encN width n) := by
  obtain ⟨ao, cap, rfl⟩ := row_form h
  go_enter Tryz.func79, Tryz.ntmps79
  go_wp2_with fail
  go_loopw [0, 7] (fun u0 u7 wr => ∃ (k : Nat) (pre : Bs) (T' : Nat → Tag), k ≤ width ∧ encN width n = pre ++ encN k n ∧ u7 = .int .i64 ((k : Int) - 1) ∧ Step (fun s => s = t) w T wr T' ∧ BRow wr T' t u0 (l ++ pre)) (fun _ u7 _ => (intOf u7 + 1).toNat)
  case atStart => exact ⟨width, [], T, Nat.le_refl _, rfl, rfl, Step.refl _ _ _, by simpa using h⟩
  case round =>
    obtain ⟨k, pre, T', hk, hpre, rfl, hs, hR⟩ := hrel
    obtain ⟨ao', cap', rfl⟩ := row_form hR
    have hpl : pre.length + k = width := by
      have := congrArg List.length hpre
      simp [encN_length] at this
      omega
    cases k with
    | zero =>
      have he : l ++ encN width n = l ++ pre := by rw [hpre]; simp [encN]
      go_wp2
      go_ret
      exact ⟨.slice ao' (l ++ pre).length cap', T', rfl, hs, by rw [he]; exact hR⟩
    | succ k =>
      have hal := step_alloc wr T' (.cells #[.int .u8 ((n : Int) / 2 ^ (8 * k) % 256)] 5) (fun _ => False)
      have hRa := hR.step hal (fun h => h)
      have hbv : byteV (UInt8.ofNat (n / 256 ^ k)) = .int .u8 ((n : Int) / 2 ^ (8 * k) % 256) := by
        unfold byteV
        congr 1
        rw [UInt8.toNat_ofNat', show (256 : Nat) = 2 ^ 8 from rfl, ← Nat.pow_mul]
        simp
      have hsr := src_byte (wr.alloc (.cells #[.int .u8 ((n : Int) / 2 ^ (8 * k) % 256)] 5)) wr.heap.size (UInt8.ofNat (n / 256 ^ k)) (by rw [hbv]; exact (blk_new wr T' #[.int .u8 ((n : Int) / 2 ^ (8 * k) % 256)] 5 .free).cell (j := 0) rfl)
      have hpre2 : encN width n = (pre ++ [UInt8.ofNat (n / 256 ^ k)]) ++ encN k n := by rw [hpre, encN]; simp
      clear hpre hR hbv
      go_wp2_with (first
        | (at_builtin; refine wpList_append_bytes rfl _ _ _ rfl _ (l ++ pre) rfl hRa _ [UInt8.ofNat (n / 256 ^ k)] rfl hsr (by simp; omega) ?_; intro v' w6 T6 hR6 hs6)
        | go_in)
      exact ⟨⟨k, pre ++ [UInt8.ofNat (n / 256 ^ k)], T6, by omega, hpre2, rfl, (hs.trans (hal.mono (fun _ h => h.elim))).trans hs6, by rw [← List.append_assoc]; exact hR6⟩, by simp [intOf]⟩

end Go.Proofs.YtockkceclkcgbaaGreatDoor

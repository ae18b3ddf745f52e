/- The program's queue and its groups as they lie in memory: maps of tries, of waits, of groups; a list that begins within its row. -/
import Derived.Test.YtockkceclkcgbaaGreatDoorT12
import Derived.Test.YtockkceclkcgbaaGreatDoorT02
import Derived.Maps.RangeWalk
import Derived.Maps.Ext
import Derived.Lib.SliceRun
import Derived.OpenShut
namespace Go.Proofs.YtockkceclkcgbaaGreatDoor
open Go.RowKit Go.Maps

/-- the blocks of the queue of number i: r says which, k of which group -/
abbrev Tag.q (i r k : Nat) : Tag := ⟨5, i, r, k⟩

theorem law3 : Keyed Tryz.prog 3 := int_keyed Tryz.underlying3
theorem zeroI (w : World) : (zeroValue 3).run Tryz.prog w = .ok (.int .i64 0) w := by kernel_rfl
theorem zeroW (w : World) : (zeroValue 177).run Tryz.prog w = .ok (.agg #[.int .i64 0, .bool false]) w := by kernel_rfl
theorem zeroP (w : World) : (zeroValue 129).run Tryz.prog w = .ok (.pointer none) w := by kernel_rfl
theorem infoS : (Tryz.prog.info? 9).map (fun i => (i.zero, i.size, i.bytes)) = some (some (.string ⟨#[]⟩), 1, 16) := by kernel_rfl
theorem wfI {n : Int} (h : i64 n) : (Lit.int .i64 n).wf = true := WalkArith.wf_i64 ⟨h.1, h.2⟩

/-! how a wait reads -/
abbrev waitV (u : Int × Bool) : Value := .agg #[.int .i64 u.1, .bool u.2]
def waitD (u : Int × Bool) : DataW Unit := .agg [.lit (.int .i64 u.1), .lit (.bool u.2)]
def waitElem : Value → Option (DataW Unit × List MemPlace)
  | .agg cs => match cs.toList with
    | [.int .i64 u, .bool l] => some (waitD (u, l), [])
    | _ => none
  | _ => none
theorem waitElem_mk (u : Int × Bool) : waitElem (waitV u) = some (waitD u, []) := rfl
theorem waitElem_inv {v : Value} {y : DataW Unit × List MemPlace} (h : waitElem v = some y) : ∃ u, v = waitV u ∧ y = (waitD u, []) := by
  unfold waitElem at h
  split at h
  · rename_i cs
    split at h
    · rename_i u l e
      refine ⟨(u, l), ?_, (Option.some.inj h).symm⟩
      have : cs = #[.int .i64 u, .bool l] := by rw [← Array.toArray_toList (xs := cs), e]
      rw [this]
    · cases h
  · cases h
theorem waitD_inj {u v : Int × Bool} (h : waitD u = waitD v) : u = v := by
  obtain ⟨a, b⟩ := u
  obtain ⟨c, d⟩ := v
  simp [waitD] at h
  rw [h.1, h.2]

/-! how a group's pointer reads -/
def ptrElem : Value → Option (DataW Unit × List MemPlace)
  | .pointer (some ⟨b, 0, none⟩) => some (.lit (.int .i64 b), [])
  | .pointer none => some (.nil, [])
  | _ => none
theorem ptrElem_mk (b : Nat) : ptrElem (ptrV b) = some (.lit (.int .i64 b), []) := rfl
theorem ptrElem_inv {v : Value} {b : Nat} {ps : List MemPlace} (h : ptrElem v = some (.lit (.int .i64 b), ps)) : v = ptrV b := by
  unfold ptrElem at h
  split at h
  · rename_i c
    simp at h
    have : c = b := by omega
    rw [← this]; rfl
  · simp at h
  · cases h
theorem ptrElem_nil {v : Value} {ps : List MemPlace} (h : ptrElem v = some (.nil, ps)) : v = .pointer none := by
  unfold ptrElem at h
  split at h
  · simp at h
  · rfl
  · cases h

/-! few keys -/
theorem nodup_few : ∀ (n : Nat) (l : List Nat), l.Nodup → (∀ x ∈ l, x < n) → l.length ≤ n
  | 0, l, _, h => by
    cases l with
    | nil => simp
    | cons x r => have := h x (by simp); omega
  | n + 1, l, hn, h => by
    have h1 := nodup_few n (l.erase n) (hn.erase n) (fun x hx => by
      have h2 := (hn.mem_erase_iff).1 hx
      have := h x h2.2
      omega)
    have h3 : l.length ≤ (l.erase n).length + 1 := by
      by_cases hm : n ∈ l
      · rw [List.length_erase_of_mem hm]; omega
      · rw [List.erase_of_not_mem hm]; omega
    omega
def litN : Lit → Nat
  | .int _ x => x.toNat
  | _ => 0
theorem ownsMap_few {R : Value → Option (DataW Unit × List MemPlace)} {w : World} {b n : Nat} {D : DataW Unit} (h : w.ownsMap Tryz.prog 3 R b n D) (hk : ∀ x : Int, Maps.has D (.int .i64 x) = true → 0 ≤ x ∧ x < 400) : w.ownsMap Tryz.prog 3 R b 400 D := by
  obtain ⟨es, clock, hb, F, hs2, hD⟩ := h
  refine ⟨es, clock, hb, F, ?_, hD⟩
  have hkeys := fit_keys F
  have hap := fit_apart law3 F
  have hin : ∀ p ∈ es.toList.map (WideElems.rg Tryz.prog 3 R), ∃ x : Int, p.1 = .int .i64 x ∧ 0 ≤ x ∧ x < 400 := by
    intro p hp
    obtain ⟨v, hv⟩ := hkeys p hp
    obtain ⟨x, _, e, _⟩ := keyOf_int_inv Tryz.underlying3 hv
    refine ⟨x, e, hk x ?_⟩
    rw [hD, has_eq, List.any_eq_true]
    exact ⟨p, mem_sorted.2 hp, by rw [e]; exact WideAt.sameKey_self trivial⟩
  have h1 : ((es.toList.map (WideElems.rg Tryz.prog 3 R)).map (fun p => litN p.1)).Nodup := by
    refine List.Pairwise.map _ (fun p q hpq => ?_) ((List.Pairwise.and_mem.1 hap))
    obtain ⟨hp, hq, hne⟩ := hpq
    obtain ⟨x, e1, x0, _⟩ := hin p hp
    obtain ⟨y, e2, y0, _⟩ := hin q hq
    intro e
    rw [e1, e2] at e hne
    simp [litN] at e
    exact hne (by congr 1; omega)
  have h2 := nodup_few 400 _ h1 (by
    intro x hx
    obtain ⟨p, hp, rfl⟩ := List.mem_map.1 hx
    obtain ⟨x, e, x0, x1⟩ := hin p hp
    rw [e]
    simp [litN]
    omega)
  simpa using h2

/-- Block b is the map of tries f. -/
def TM (w : World) (T : Nat → Tag) (t : Tag) (b : Nat) (f : Int → Int) : Prop :=
  T b = t ∧ ∃ D : DataW Unit, w.ownsMap Tryz.prog 3 (plainElem Tryz.prog 3) b 400 D ∧ (∀ k, D.atKey (.int .i64 k) (.lit (.int .i64 0)) = .lit (.int .i64 (f k))) ∧ ∀ k, Maps.has D (.int .i64 k) = true → 0 ≤ k ∧ k < 400
/-- Block b is the map of waits f. -/
def WM (w : World) (T : Nat → Tag) (t : Tag) (b : Nat) (f : Int → Option (Int × Bool)) : Prop :=
  T b = t ∧ ∃ D : DataW Unit, w.ownsMap Tryz.prog 3 waitElem b 400 D ∧ (∀ k, Maps.has D (.int .i64 k) = (f k).isSome) ∧ (∀ k u, f k = some u → ∀ z, D.atKey (.int .i64 k) z = waitD u) ∧ ∀ k, (f k).isSome = true → 0 ≤ k ∧ k < 400
/-- Block b is the map of the groups: of the k-th name the block f k. -/
def NM (w : World) (T : Nat → Tag) (t : Tag) (b : Nat) (names : List ByteArray) (f : Nat → Nat) : Prop :=
  T b = t ∧ ∃ (n : Nat) (D : DataW Unit), w.ownsMap Tryz.prog 9 ptrElem b n D ∧ Maps.size D = names.length ∧ (∀ s, Maps.has D (keyL s) = (idx s names).isSome) ∧ ∀ s k, idx s names = some k → ∀ z, D.atKey (keyL s) z = .lit (.int .i64 (f k))

theorem TM.step {S : Tag → Prop} {w w' : World} {T T' : Nat → Tag} {t : Tag} {b : Nat} {f : Int → Int} (h : TM w T t b f) (hs : Step S w T w' T') (ht : ¬ S t) : TM w' T' t b f := by
  obtain ⟨h1, D, h2, h3⟩ := h
  exact ⟨(hs.tag b h2.lt).trans h1, D, ownsMap_step h2 hs (by rw [h1]; exact ht), h3⟩
theorem WM.step {S : Tag → Prop} {w w' : World} {T T' : Nat → Tag} {t : Tag} {b : Nat} {f : Int → Option (Int × Bool)} (h : WM w T t b f) (hs : Step S w T w' T') (ht : ¬ S t) : WM w' T' t b f := by
  obtain ⟨h1, D, h2, h3⟩ := h
  exact ⟨(hs.tag b h2.lt).trans h1, D, ownsMap_step h2 hs (by rw [h1]; exact ht), h3⟩
theorem NM.step {S : Tag → Prop} {w w' : World} {T T' : Nat → Tag} {t : Tag} {b : Nat} {names : List ByteArray} {f : Nat → Nat} (h : NM w T t b names f) (hs : Step S w T w' T') (ht : ¬ S t) : NM w' T' t b names f := by
  obtain ⟨h1, n, D, h2, h3⟩ := h
  exact ⟨(hs.tag b h2.lt).trans h1, n, D, ownsMap_step h2 hs (by rw [h1]; exact ht), h3⟩
theorem TM.lt {w : World} {T : Nat → Tag} {t : Tag} {b : Nat} {f : Int → Int} (h : TM w T t b f) : b < w.heap.size := by obtain ⟨_, _, h, _⟩ := h; exact h.lt
theorem WM.lt {w : World} {T : Nat → Tag} {t : Tag} {b : Nat} {f : Int → Option (Int × Bool)} (h : WM w T t b f) : b < w.heap.size := by obtain ⟨_, _, h, _⟩ := h; exact h.lt
theorem NM.lt {w : World} {T : Nat → Tag} {t : Tag} {b : Nat} {names : List ByteArray} {f : Nat → Nat} (h : NM w T t b names f) : b < w.heap.size := by obtain ⟨_, _, _, h, _⟩ := h; exact h.lt

/-- A list that may begin within its row (the first ones were cut off). -/
def Sub (w : World) (T : Nat → Tag) (t : Tag) (v : Value) (xs : List Value) : Prop :=
  ∃ ao cap, v = .slice ao xs.length cap ∧ xs.length ≤ cap ∧ (cap = 0 ∨ ∃ g off cur, ao = some ⟨g, off, none⟩ ∧ T g = t ∧ w.heap[g]? = some (.cells cur 9 (0, 0)) ∧ cur.size = off + cap ∧ (cur.toList.drop off).take xs.length = xs)
theorem Sub.step {S : Tag → Prop} {w w' : World} {T T' : Nat → Tag} {t : Tag} {v : Value} {xs : List Value} (h : Sub w T t v xs) (hs : Step S w T w' T') (ht : ¬ S t) : Sub w' T' t v xs := by
  obtain ⟨ao, cap, h1, h2, h3⟩ := h
  refine ⟨ao, cap, h1, h2, h3.imp id ?_⟩
  rintro ⟨g, off, cur, e, hT, hg, rest⟩
  have hlt := (Array.getElem?_eq_some_iff.1 hg).1
  exact ⟨g, off, cur, e, (hs.tag g hlt).trans hT, (hs.block g hlt (by rw [hT]; exact ht)).trans hg, rest⟩
theorem sub_nil (w : World) (T : Nat → Tag) (t : Tag) : Sub w T t (.slice none 0 0) [] := ⟨none, 0, rfl, Nat.le_refl _, .inl rfl⟩
/-- an element of the list -/
theorem Sub.cell {w : World} {T : Nat → Tag} {t : Tag} {v : Value} {xs : List Value} {j : Nat} {u : Value} (h : Sub w T t v xs) (hj : xs[j]? = some u) : ∃ g off cap, v = .slice (some ⟨g, off, none⟩) xs.length cap ∧ w.cell? ⟨g, off + j, none⟩ = some u ∧ g < w.heap.size := by
  have hlt := (List.getElem?_eq_some_iff.1 hj).1
  obtain ⟨ao, cap, h1, h2, h3 | ⟨g, off, cur, rfl, hT, hg, hs, hx⟩⟩ := h
  · omega
  · refine ⟨g, off, cap, h1, ?_, (Array.getElem?_eq_some_iff.1 hg).1⟩
    have hj2 : ((cur.toList.drop off).take xs.length)[j]? = some u := by rw [hx]; exact hj
    rw [List.getElem?_take, if_pos hlt, List.getElem?_drop] at hj2
    simp only [World.cell?, hg]
    simpa using hj2

theorem take_drop_snoc (l : List Value) (off n : Nat) (u : Value) (r : List Value) (xs : List Value) (h : (l.drop off).take n = xs) (hx : xs.length = n) (hl : off + n ≤ l.length) :
    ((l.take (off + n) ++ [u] ++ r).drop off).take (n + 1) = xs ++ [u] := by
  have e : l.take (off + n) = l.take off ++ (l.drop off).take n := by rw [List.take_add]
  rw [e, h, List.append_assoc, List.append_assoc, List.drop_append_of_le_length (by simp; omega)]
  have : (l.take off).drop off = [] := List.drop_eq_nil_of_le (by simp; omega)
  rw [this, List.nil_append, ← List.append_assoc, List.take_append_of_le_length (by simp [hx])]
  rw [List.take_of_length_le (by simp [hx])]

/-- append of one element -/
theorem run_append_sub {w : World} {T : Nat → Tag} {t : Tag} (ty : TypeId) (v : Value) (xs : List Value) (hsub : Sub w T t v xs) (a : Addr) (u : Value) (hu : w.cell? a = some u) (h1 : u.oneCell' = true) (ha : a.add 0 = a) (hn : xs.length ≤ 4096) :
    ∃ v' w' T', (Builtin.append_ #[54, 54] ty #[v, .slice (some a) 1 1]).run Tryz.prog w = .ok v' w' ∧ Sub w' T' t v' (xs ++ [u]) ∧ Step (fun s => s = t) w T w' T' := by
  obtain ⟨i0, hi, hz0, hz1, hz2⟩ := info_parts infoS
  have hnews : ∀ j x, [u][j]? = some x → w.cell? (a.add j) = some x := by
    intro j x hj
    cases j with
    | zero => simp at hj; subst hj; rw [ha]; exact hu
    | succ j => simp at hj
  have hnew : ∀ (o : Obj), Step (fun s => s = t) w T (w.drew.alloc o) (retag T w.heap.size t) := fun o => by
    have := (step_below (fun s => s = t) T ((Below.refl w.heap.size w).drew)).trans (step_new w.drew T o t (fun s => s = t))
    exact this
  have hblk : ∀ (cs : Array Value), (w.drew.alloc (.cells cs 9)).heap[w.heap.size]? = some (.cells cs 9 (0, 0)) := fun cs => heap_alloc_new w.drew _
  obtain ⟨ao, cap, rfl, hc, hrest⟩ := hsub
  by_cases hroom : xs.length + 1 ≤ cap
  · rcases hrest with h0 | ⟨g, off, cur, rfl, hT, hg, hs, hx⟩
    · omega
    · have hf := run_firstCells_some (P := Tryz.prog) w i0.size 1 a 1 1 [u] (by rw [hz1]; rfl) hnews
      have hst := run_storeCells_at Tryz.prog g (off + xs.length) 9 [u] 0 cur w hg (by simp; omega) (by simpa using h1)
      simp only [Nat.add_zero] at hst
      have hsz : (xs.length : Nat) * i0.size = xs.length := by rw [hz1]; omega
      have hw : (w.setRow g (cur.toList.take (off + xs.length) ++ [u] ++ cur.toList.drop (off + xs.length + [u].length)).toArray).heap[g]? = some (.cells (cur.toList.take (off + xs.length) ++ [u] ++ cur.toList.drop (off + xs.length + [u].length)).toArray 9 (0, 0)) := setRow_heap w g cur _ 9 _ hg
      refine ⟨.slice (some ⟨g, off, none⟩) (xs.length + 1) cap, w.setRow g (cur.toList.take (off + xs.length) ++ [u] ++ cur.toList.drop (off + xs.length + [u].length)).toArray, T, ?_, ⟨_, cap, by simp, by simpa using hroom, .inr ⟨g, off, _, rfl, hT, hw, ?_, ?_⟩⟩, ?_⟩
      · simp [Builtin.append_, run_underlying Tryz.underlying54, sizeOf, typeInfo, hi, Builtin.lenOf, hroom, hf, Addr.add_lit, hsz, hst]
      · simp; omega
      · simp only [List.length_append, List.length_cons, List.length_nil, Nat.zero_add]
        exact take_drop_snoc _ off xs.length u _ xs hx rfl (by simp; omega)
      · exact step_kept ⟨rfl, rfl, rfl, by simp [World.setRow], fun k _ hk => setRow_other w g k _ hk⟩ (fun k _ hk => by rw [show k = g from hk]; exact hT) (fun _ _ => rfl)
  · have hcap : cap = xs.length := by omega
    cases ao with
    | none =>
      have h0 : cap = 0 := by
        rcases hrest with h0 | ⟨g, off, cur, e, _⟩
        · exact h0
        · cases e
      have hx0 : xs = [] := List.eq_nil_of_length_eq_zero (by omega)
      subst hx0
      subst h0
      have hr := run_append_nil (P := Tryz.prog) w 54 ty 9 i0 _ Tryz.underlying54 hi hz0 a 1 1 [u] (by rw [hz1]; rfl) hnews (by decide) (by decide) (by rw [hz2]; decide)
      refine ⟨_, _, _, hr, ⟨some ⟨w.heap.size, 0, none⟩, grownCap w 1 0 9, rfl, grownCap_ge _ _ _ _, .inr ⟨w.heap.size, 0, _, rfl, retag_same _ _ _, hblk _, ?_, ?_⟩⟩, hnew _⟩
      · have := grownCap_ge w 1 0 9
        simp [size_zeroCells]
        rw [show (Value.string ⟨#[]⟩).cells.size = 1 from rfl]
        omega
      · simp
    | some b =>
      have holds : ∀ j x, xs[j]? = some x → w.cell? (b.add j) = some x := by
        intro j x hj
        have hjl := (List.getElem?_eq_some_iff.1 hj).1
        rcases hrest with h0 | ⟨g, off, cur, e, hT, hg, hs, hx⟩
        · omega
        · cases e
          rw [← hx, List.getElem?_take, if_pos hjl, List.getElem?_drop] at hj
          rw [Addr.add_lit]
          simp only [World.cell?, hg]
          simpa using hj
      have hr := run_append_grow (P := Tryz.prog) w 54 ty 9 i0 _ Tryz.underlying54 hi hz0 b xs.length cap xs (by rw [hz1]; omega) holds a 1 1 [u] (by rw [hz1]; rfl) hnews (by omega) (by omega) (growslice_fits (by omega) (by rw [hz2]; omega))
      refine ⟨_, _, _, hr, ⟨some ⟨w.heap.size, 0, none⟩, grownCap w (xs.length + 1) cap 9, by simp, by simpa using grownCap_ge w (xs.length + 1) cap 9, .inr ⟨w.heap.size, 0, _, rfl, retag_same _ _ _, hblk _, ?_, ?_⟩⟩, hnew _⟩
      · have := grownCap_ge w (xs.length + 1) cap 9
        simp [size_zeroCells]
        rw [show (Value.string ⟨#[]⟩).cells.size = 1 from rfl]
        omega
      · rw [List.drop_zero, Array.toList_append, Array.toList_append, List.take_append_of_le_length (by simp)]
        exact List.take_of_length_le (by simp)

theorem wpList_append_sub {w : World} {T : Nat → Tag} {t : Tag} {ops : Array Oper} {rest : List Oper} {o : Oper} {a : Act} {Q : Exit → Act → World → Prop} (hgd : o.guard = none) (s x : Operand)
    (ho : o.op = .call { callee := .builtin .append, args := #[s, x], argTypes := #[54, 54] }) (v : Value) (xs : List Value) (hs : a.eval s = v) (hsub : Sub w T t v xs)
    (ad : Addr) (u : Value) (hx : a.eval x = .slice (some ad) 1 1) (hu : w.cell? ad = some u) (h1 : u.oneCell' = true) (ha : ad.add 0 = ad) (hn : xs.length ≤ 4096)
    (h : ∀ v' w' T', Sub w' T' t v' (xs ++ [u]) → Step (fun s => s = t) w T w' T' → wpList Tryz.prog ops Q rest (a.put o.dst v') w') : wpList Tryz.prog ops Q (o :: rest) a w := by
  refine wpList_plain hgd fun K hK => ?_
  obtain ⟨v', w', T', hr, h2, h3⟩ := run_append_sub o.type v xs hsub ad u hu h1 ha hn
  unfold Oper.wp execOp
  simp only [ho, resolve, invoke, builtin, Sem.run_bind, Sem.run_pure, Result.andThen_ok, List.map_toArray, List.map_cons, List.map_nil, hs, hx, hr]
  exact hK _ _ (h v' w' T' h2 h3)

/-! look-ups -/
section
variable {w : World} {T : Nat → Tag} {t : Tag} {ops : Array Oper} {rest : List Oper} {o : Oper} {a : Act} {Q : Exit → Act → World → Prop}
theorem wpList_lookup_try (hg : o.guard = none) (m x : Operand) (hop : o.op = Op.lookup 131 m x false) (b : Nat) (f : Int → Int) (hm : a.eval m = .map (some b)) (h : TM w T t b f) (n : Int) (hx : a.eval x = .int .i64 n) (hn : i64 n)
    (hK : wpList Tryz.prog ops Q rest (a.put o.dst (.int .i64 (f n))) w) : wpList Tryz.prog ops Q (o :: rest) a w := by
  obtain ⟨_, D, hown, hat, _⟩ := h
  refine wpList_lookup_own_int _ hg m x 131 hop 3 3 .i64 law3 Tryz.underlying131 Tryz.underlying3 (zeroI _) b _ _ hm hown _ _ hx (keyOf_int_mk Tryz.underlying3 (wfI hn)) ?_
  intro c hc _
  rw [hat n] at hc
  have : f n = c := by simpa using hc
  rw [← this]; exact hK
theorem WM.look {b : Nat} {f : Int → Option (Int × Bool)} (h : WM w T t b f) {n : Int} (hn : i64 n) : (Instr.lookup 132 (.map (some b)) (.int .i64 n) false).run Tryz.prog w = .ok (waitV ((f n).getD (0, false))) w ∧
    (Instr.lookup 132 (.map (some b)) (.int .i64 n) true).run Tryz.prog w = .ok (.tuple #[waitV ((f n).getD (0, false)), .bool (f n).isSome]) w := by
  obtain ⟨_, D, hown, hhas, hat, _⟩ := h
  have hkey := keyOf_int_mk Tryz.underlying3 (wfI hn)
  have hD : D.atKey (.int .i64 n) (waitD (0, false)) = waitD ((f n).getD (0, false)) := by
    cases hf : f n with
    | none => rw [atKey_of_not_has (by rw [hhas, hf]; rfl)]; rfl
    | some u => rw [hat n u hf]; rfl
  constructor
  · obtain ⟨v, ps, hr, hv⟩ := hown.lookup law3 Tryz.underlying132 (zeroW _) (zd := waitD (0, false)) (zp := []) rfl hkey
    rw [hD] at hv
    obtain ⟨u, rfl, e⟩ := waitElem_inv hv
    have := waitD_inj (congrArg Prod.fst e)
    rw [hr, this]
  · obtain ⟨v, ps, hr, hv⟩ := hown.look_ok law3 Tryz.underlying132 (zeroW _) (zd := waitD (0, false)) (zp := []) rfl hkey
    rw [hD] at hv
    obtain ⟨u, rfl, e⟩ := waitElem_inv hv
    have := waitD_inj (congrArg Prod.fst e)
    rw [hr, this, hhas]
theorem wpList_lookup_wait (hg : o.guard = none) (m x : Operand) (hop : o.op = Op.lookup 132 m x false) (b : Nat) (f : Int → Option (Int × Bool)) (hm : a.eval m = .map (some b)) (h : WM w T t b f) (n : Int) (hx : a.eval x = .int .i64 n) (hn : i64 n)
    (hK : wpList Tryz.prog ops Q rest (a.put o.dst (waitV ((f n).getD (0, false)))) w) : wpList Tryz.prog ops Q (o :: rest) a w := by
  refine wpList_plain hg fun K' hK' => ?_
  have hr := (h.look hn).1
  unfold Oper.wp
  simp [execOp, hop, hm, hx, hr, Result.andThen]
  exact hK' _ _ hK
theorem wpList_lookup_waits (hg : o.guard = none) (m x : Operand) (hop : o.op = Op.lookup 132 m x true) (b : Nat) (f : Int → Option (Int × Bool)) (hm : a.eval m = .map (some b)) (h : WM w T t b f) (n : Int) (hx : a.eval x = .int .i64 n) (hn : i64 n)
    (hK : wpList Tryz.prog ops Q rest (a.put o.dst (.tuple #[waitV ((f n).getD (0, false)), .bool (f n).isSome])) w) : wpList Tryz.prog ops Q (o :: rest) a w := by
  refine wpList_plain hg fun K' hK' => ?_
  have hr := (h.look hn).2
  unfold Oper.wp
  simp [execOp, hop, hm, hx, hr, Result.andThen]
  exact hK' _ _ hK
/-- the pointer of a group: nil where there is none -/
def ptrO : Option Nat → Value
  | none => .pointer none
  | some b => ptrV b
theorem wpList_lookup_grp (hg : o.guard = none) (m x : Operand) (hop : o.op = Op.lookup 99 m x false) (b : Nat) (names : List ByteArray) (f : Nat → Nat) (hm : a.eval m = .map (some b)) (h : NM w T t b names f) (s : ByteArray) (hx : a.eval x = .string s) (hs : s.size ≤ maxLen)
    (hK : wpList Tryz.prog ops Q rest (a.put o.dst (ptrO ((idx s names).map f))) w) : wpList Tryz.prog ops Q (o :: rest) a w := by
  obtain ⟨_, n, D, hown, hsz, hhas, hat⟩ := h
  have hkey : keyOf Tryz.prog 9 (.string s) = some (keyL s) := Go.WideMaps.keyOf_string_mk Tryz.underlying9 hs
  refine wpList_plain hg fun K' hK' => ?_
  obtain ⟨v, ps, hr, hv⟩ := hown.lookup law9 Tryz.underlying99 (zeroP _) (zd := .nil) (zp := []) rfl hkey
  have hv2 : v = ptrO ((idx s names).map f) := by
    cases hi : idx s names with
    | none =>
      rw [atKey_of_not_has (by rw [hhas, hi]; rfl)] at hv
      exact ptrElem_nil hv
    | some k =>
      rw [hat s k hi] at hv
      exact ptrElem_inv hv
  subst hv2
  unfold Oper.wp
  simp [execOp, hop, hm, hx, hr, Result.andThen]
  exact hK' _ _ hK
end

end Go.Proofs.YtockkceclkcgbaaGreatDoor

/- The sum of a text, as a function of what was summed before (what it is does not matter, but that it has four bytes): the contract of sum. -/
namespace Go.Proofs.YtockkceclkcgbaaGreatDoor
open Go.RowKit

abbrev Bs := List UInt8
def mkB (l : Bs) : ByteArray := ⟨l.toArray⟩
def halfStep (s : Int) : Int := bits .xor .u32 (s / 2) (bits .and .u32 s 1 * 3988292384 % 4294967296)
def shiftF : Nat → Int → Int
  | 0, s => s
  | n + 1, s => halfStep (shiftF n s)
def crcStep (s : Int) (b : UInt8) : Int := shiftF 8 (bits .xor .u32 s b.toNat)
def notF (s : Int) : Int := bits .xor .u32 IntKind.u32.max s
def crcF (s : Nat) (l : Bs) : Nat := (notF (l.foldl crcStep (notF s))).toNat % 4294967296

theorem bits_u32 (op : BinOp) (a b : Int) : 0 ≤ bits op .u32 a b ∧ bits op .u32 a b ≤ 4294967295 := by
  have := wf_bits op .u32 a b
  simp [Lit.wf, IntKind.min, IntKind.max, IntKind.signed, IntKind.bits] at this
  omega
theorem shiftF_range (s : Int) (h0 : 0 ≤ s) (h1 : s ≤ 4294967295) : ∀ n, 0 ≤ shiftF n s ∧ shiftF n s ≤ 4294967295
  | 0 => ⟨h0, h1⟩
  | _ + 1 => bits_u32 .xor _ _
theorem crcF_lt (s : Nat) (l : Bs) : crcF s l < 256 ^ 4 := Nat.mod_lt _ (by decide)

set_option maxRecDepth 100000 in
set_option maxHeartbeats 1000000 in
theorem shift_any (s : Int) (h0 : 0 ≤ s) (h1 : s ≤ 4294967295) (w : World) : Calls Tryz.prog 122 #[.int .u32 s, .int .i64 8] w fun e w' => e = .returned (.int .u32 (shiftF 8 s)) ∧ w' = w := by
  go_enter Tryz.func122, Tryz.ntmps122
  go_wp2_with fail
  go_loopw [0, 7] (fun u0 u7 wr => ∃ (k : Nat), k ≤ 8 ∧ u7 = .int .i64 k ∧ u0 = .int .u32 (shiftF k s) ∧ wr = w) (fun _ u7 _ => 8 - (intOf u7).toNat)
  case atStart => exact ⟨0, Nat.zero_le _, rfl, rfl, rfl⟩
  case round =>
    obtain ⟨k, hk, rfl, rfl, rfl⟩ := hrel
    obtain ⟨r0, r1⟩ := shiftF_range s h0 h1 k
    by_cases hlt : k < 8
    · have hnext : Hid (shiftF (k + 1) s = bits .xor .u32 (shiftF k s / 2) (bits .and .u32 (shiftF k s) 1 * 3988292384 % 4294967296)) := hide rfl
      generalize shiftF k s = z at *
      have y1 := bits_u32 .and z 1
      go_wp2
      exact ⟨⟨k + 1, by omega, by simp, by rw [hnext.out], trivial⟩, by simp [intOf]; omega⟩
    · have e : k = 8 := by omega
      subst e
      generalize hz : shiftF 8 s = z at *
      go_wp2
      go_ret
      exact ⟨by rw [hz]; rfl, rfl⟩

theorem take_snocB {l : Bs} {k : Nat} {x : UInt8} (h : l[k]? = some x) : l.take (k + 1) = l.take k ++ [x] := by
  obtain ⟨hk, rfl⟩ := List.getElem?_eq_some_iff.1 h
  exact (List.take_append_getElem hk).symm

set_option maxRecDepth 100000 in
set_option maxHeartbeats 1000000 in
theorem sum_any (s : Nat) (_hs : s < 256 ^ 4) (t : ByteArray) (ht : t.size ≤ 9000000000000000000) (w : World) : Calls Tryz.prog 93 #[.int .u32 s, .string t] w fun e w' => e = .returned (.int .u32 (crcF s t.data.toList)) ∧ w' = w := by
  have hn : bits .xor .u32 IntKind.u32.max s = notF s := rfl
  have hsize : t.data.toList.length = t.size := Array.length_toList
  go_enter Tryz.func93, Tryz.ntmps93
  go_wp2_with fail
  go_loopw [5, 11] (fun u5 u11 wr => ∃ (k : Nat), k ≤ t.size ∧ u11 = .int .i64 k ∧ u5 = .int .u32 ((t.data.toList.take k).foldl crcStep (notF s)) ∧ 0 ≤ (t.data.toList.take k).foldl crcStep (notF s) ∧ (t.data.toList.take k).foldl crcStep (notF s) ≤ 4294967295 ∧ wr = w) (fun _ u11 _ => t.size - (intOf u11).toNat)
  case atStart => exact ⟨0, Nat.zero_le _, rfl, rfl, (bits_u32 .xor IntKind.u32.max s).1, (bits_u32 .xor IntKind.u32.max s).2, rfl⟩
  case round =>
    obtain ⟨k, hk, rfl, rfl, r0, r1, rfl⟩ := hrel
    by_cases hlt : k < t.size
    · obtain ⟨x, hx⟩ : ∃ x, t.data.toList[k]? = some x := ⟨_, List.getElem?_eq_getElem (by omega)⟩
      have hnext : Hid ((t.data.toList.take (k + 1)).foldl crcStep (notF s) = crcStep ((t.data.toList.take k).foldl crcStep (notF s)) x) := hide (by rw [take_snocB hx, List.foldl_append]; rfl)
      generalize (t.data.toList.take k).foldl crcStep (notF s) = z at *
      have hxv : ((t[k]'hlt).toNat : Int) % 4294967296 = x.toNat := by
        have h1 : t[k]'hlt = x := by
          have h2 := (List.getElem?_eq_some_iff.1 hx).2
          rw [← h2]
          rfl
        have h3 : x.toNat < 256 := x.toNat_lt
        rw [h1]
        omega
      have y1 := bits_u32 .xor z x.toNat
      have y2 : 0 ≤ crcStep z x ∧ crcStep z x ≤ 4294967295 := shiftF_range _ y1.1 y1.2 8
      have hfin : Hid (crcStep z x = shiftF 8 (bits .xor .u32 z x.toNat)) := hide rfl
      clear hx
      go_wp2_with fail
      simp only [hxv]
      refine (shift_any _ y1.1 y1.2 _).mono ?_
      rintro e w2 ⟨rfl, rfl⟩
      rw [← hfin.out]
      generalize crcStep z x = y at *
      go_wp2
      exact ⟨⟨k + 1, by omega, by simp, by rw [hnext.out], by rw [hnext.out]; exact y2.1, by rw [hnext.out]; exact y2.2, trivial⟩, by simp [intOf]; omega⟩
    · have e : k = t.size := by omega
      subst e
      have hall : t.data.toList.take t.size = t.data.toList := List.take_of_length_le (by omega)
      have hr := bits_u32 .xor IntKind.u32.max ((t.data.toList.take t.size).foldl crcStep (notF s))
      have hfin : Hid (crcF s t.data.toList = (bits .xor .u32 IntKind.u32.max ((t.data.toList.take t.size).foldl crcStep (notF s))).toNat) := hide (by
        unfold crcF
        rw [hall] at hr ⊢
        show (bits .xor .u32 IntKind.u32.max _).toNat % 4294967296 = _
        omega)
      generalize (t.data.toList.take t.size).foldl crcStep (notF s) = z at *
      go_wp2
      go_ret
      refine ⟨?_, rfl⟩
      rw [hfin.out, Int.toNat_of_nonneg hr.1]
      rfl

end Go.Proofs.YtockkceclkcgbaaGreatDoor

/- Contracts of the program's Enqueue and Group, over the document's queue that it tells. -/
import Derived.Test.YtockkceclkcgbaaGreatDoorB29
import Derived.Deep.RegionHeld3
namespace Go.Proofs.YtockkceclkcgbaaGreatDoor
open Go.RowKit Go.Maps
variable {vL vS : Value} {lg : Bs}

attribute [local go_sem] over_cell

theorem wpList_append_sub2 {w : World} {T : Nat → Tag} {t : Tag} {ops : Array Oper} {rest : List Oper} {o : Oper} {a : Act} {Q : Exit → Act → World → Prop} (hgd : o.guard = none) (s x : Operand)
    (ho : o.op = .call { callee := .builtin .append, args := #[s, x], argTypes := #[54, 54] }) (v : Value) (xs : List Value) (hs : a.eval s = v) (hsub : Sub w T t v xs)
    (ad : Addr) (u : Value) (hx : a.eval x = .slice (some ad) 1 1) (hu : w.cell? ad = some u) (h1 : u.oneCell' = true) (ha : ad.add 0 = ad) (K : Nat) (hK : xs.length = K) (hn : K ≤ 4096)
    (h : ∀ ao' cap' w' T', Sub w' T' t (.slice ao' (K + 1) cap') (xs ++ [u]) → Step (fun s => s = t) w T w' T' → wpList Tryz.prog ops Q rest (a.put o.dst (.slice ao' (K + 1) cap')) w') : wpList Tryz.prog ops Q (o :: rest) a w := by
  refine wpList_append_sub hgd s x ho v xs hs hsub ad u hx hu h1 ha (by omega) ?_
  intro v' w' T' hS hs'
  have hS2 := hS
  obtain ⟨ao', cap', rfl, _⟩ := hS
  have e : (xs ++ [u]).length = K + 1 := by simp [hK]
  rw [e] at hS2 ⊢
  exact h ao' cap' w' T' hS2 hs'

theorem enq_groups {m : MQ} {s : ByteArray} (h : menqE m s = 0) : menqM m s = { m with bodies := m.bodies ++ [s], groups := m.groups.map (fun g => { g with items := g.items ++ [It.zero] }), changes := wrap64 (m.changes + 1) } := by
  simp [menqM, h]
theorem enq_no {m : MQ} {s : ByteArray} (h : menqE m s ≠ 0) : menqM m s = m := by simp [menqM, h]
theorem drop_snoc (l : List ByteArray) (n : Nat) (s : ByteArray) (h : n ≤ l.length) : ((l ++ [s]).drop n).map Value.string = (l.drop n).map Value.string ++ [.string s] := by
  rw [List.drop_append_of_le_length h, List.map_append]
  rfl

/-- a log behind a call: longer by a record, if something that lasts was done -/
def logS (yes : Bool) (ls : Nat) (k : UInt8) (d : Bs) : Nat := bif yes then recS ls k d else ls
def logL (yes : Bool) (lg : Bs) (ls : Nat) (k : UInt8) (d : Bs) : Bs := bif yes then lg ++ recB ls k d else lg
theorem LT_XT {i : Nat} {t : Tag} (h : LT i t) : XT i t := by rcases h with rfl | rfl | rfl <;> exact ⟨rfl, rfl⟩
theorem nLTg {i r k : Nat} (h : 3 ≤ r) : ¬ LT i (.q i r k) := by
  rintro (e | e | e)
  · have := congrArg Tag.r e; simp at this; omega
  · have := congrArg Tag.r e; simp at this; omega
  · have := congrArg Tag.r e; simp at this; omega
theorem XM.lt {w : World} {T : Nat → Tag} {i b : Nat} {m : MQ} (h : XM w T i b m vL vS lg) : b < w.heap.size := by
  obtain ⟨_, _, _, _, hB, _⟩ := h.mem
  exact hB.lt
/-- the queue opened at its log -/
theorem XM.log {w : World} {T : Nat → Tag} {i b : Nat} {m : MQ} (h : XM w T i b m vL vS lg) : ∃ a6 a7, Blk w T (.q i 0 0) b #[.int .i64 m.c.l, .int .i64 m.c.d, .int .i64 m.c.s, .int .i64 m.c.k, .int .i64 m.time, .int .i64 m.floor, a6, a7, vL, vS] 105 ∧ BRow w T (.q i 1 1) vL lg ∧
    ∀ w' T' vL' vS' lg', Step (LT i) w T w' T' → Blk w' T' (.q i 0 0) b #[.int .i64 m.c.l, .int .i64 m.c.d, .int .i64 m.c.s, .int .i64 m.c.k, .int .i64 m.time, .int .i64 m.floor, a6, a7, vL', vS'] 105 → BRow w' T' (.q i 1 1) vL' lg' → XM w' T' i b m vL' vS' lg' := by
  obtain ⟨h1, h2, h3, h4, h5, vB, mb, f, ps, hB, hR, hN, hG, hL⟩ := h
  refine ⟨vB, .map (some mb), hB, hL, fun w' T' vL' vS' lg' hs hB' hL' => ⟨h1, h2, h3, h4, h5, vB, mb, f, ps, hB', hR.step hs (by simp [LT]), hN.step hs (by simp [LT]), fun k g hg => ⟨(hG k g hg).1.step hs (fun r hr => nLTg hr), (hG k g hg).2⟩, hL'⟩⟩
theorem row_one (w : World) (T : Nat → Tag) (t : Tag) (a : Int) : Row (w.alloc (.cells #[.int .i64 a] 3)) (retag T w.heap.size t) t 3 1 (.slice (some ⟨w.heap.size, 0, none⟩) 1 1) 1 ([a].map intV) :=
  ⟨⟨rfl, .inr ⟨w.heap.size, 1, _, rfl, Nat.zero_le _, heap_alloc_new w _, Nat.le_refl _, by decide, rfl, rfl⟩⟩, fun g hg => by simp [Value.ownBlock] at hg; subst hg; exact retag_same _ _ _⟩
/-- a record with one number is written behind the log -/
theorem XM.addOne {w : World} {T : Nat → Tag} {i b : Nat} {m : MQ} {ls : Nat} (h : XM w T i b m vL (.int .u32 ls) lg) (hs : ls < 4294967296) (hl : lg.length ≤ 1000000000000) (k : UInt8) (nm : ByteArray) (hnm : nm.size ≤ 255) (n : Int) (h0 : 0 ≤ n) (h1 : n < 65536) :
    Calls Tryz.prog 72 #[.pointer (some ⟨b, 8, none⟩), .int .u8 k.toNat, .string nm, .slice (some ⟨w.heap.size, 0, none⟩) 1 1] (w.alloc (.cells #[.int .i64 n] 3)) fun e w' => e = .returned (.tuple #[]) ∧ ∃ T' vL', Step (XT i) w T w' T' ∧ XM w' T' i b m vL' (.int .u32 (recS ls k (namedB nm [n]))) (lg ++ recB ls k (namedB nm [n])) := by
  have s1 := step_new w T (.cells #[.int .i64 n] 3) (.q i 1 3) (fun _ => False)
  have h2 := h.step s1 (fun _ _ h => h)
  obtain ⟨a6, a7, hB, hL, hre⟩ := h2.log
  refine (addNamed_any i b _ _ _ _ _ _ a6 a7 vL _ ls lg k nm (.q i 1 3) [n] _ _ hB hL (row_one w T (.q i 1 3) n) (by simp) (by simp; omega) hnm hs (by simp; omega) (by simp)).mono ?_
  rintro e w3 ⟨rfl, T3, vL3, s3, hB3, hL3⟩
  exact ⟨rfl, T3, vL3, (s1.mono (fun _ h => h.elim)).trans (s3.mono (fun _ h => LT_XT h)), hre w3 T3 vL3 _ _ s3 hB3 hL3⟩

/-- a message more, in memory -/
theorem XM.enq {w w' : World} {T T' : Nat → Tag} {i b : Nat} {m : MQ} {s : ByteArray} (hx : XM w T i b m vL vS lg) (hok : m.Ok) (hE : menqE m s = 0) (hsm : m.bodies.length < 400) (vB' : Value) (hs : Step (fun t => t = .q i 0 0 ∨ t = .q i 1 0) w T w' T')
    (hB : ∀ vB mb, Blk w T (.q i 0 0) b #[.int .i64 m.c.l, .int .i64 m.c.d, .int .i64 m.c.s, .int .i64 m.c.k, .int .i64 m.time, .int .i64 m.floor, vB, .map (some mb), vL, vS] 105 → Blk w' T' (.q i 0 0) b #[.int .i64 m.c.l, .int .i64 m.c.d, .int .i64 m.c.s, .int .i64 m.c.k, .int .i64 m.time, .int .i64 m.floor, vB', .map (some mb), vL, vS] 105)
    (hS : Sub w' T' (.q i 1 0) vB' ((m.bodies.drop m.floor.toNat).map .string ++ [.string s])) : XM w' T' i b (menqM m s) vL vS lg := by
  rw [enq_groups hE]
  have hfl := hok.fl
  have ht := hok.time
  have hgood := hok.good
  have hd0 : 0 ≤ m.c.d := by
    simp only [goodC, Bool.and_eq_true] at hgood
    have := btw_true hgood.2.1
    omega
  obtain ⟨h1, h2, h3, h4, h5, vB, mb, f, ps, hB0, hS0, hN, hG, hL⟩ := hx
  have hnames : ({ m with bodies := m.bodies ++ [s], groups := m.groups.map (fun g => { g with items := g.items ++ [It.zero] }), changes := wrap64 (m.changes + 1) } : MQ).names = m.names := by simp [MQ.names, Function.comp_def]
  refine ⟨by simp; omega, by simpa using h2, by rw [hnames]; exact h3, by rw [hnames]; exact h4, fun g hg => ?_, vB', mb, f, ps, hB vB mb hB0, ?_, by rw [hnames]; exact hN.step hs (by simp), fun k g hg => ?_, hL.step hs (by simp)⟩
  · simp only [List.mem_map] at hg
    obtain ⟨g0, hg0, rfl⟩ := hg
    exact inv_enq (h5 g0 hg0) ht.1 hd0 rfl rfl
  · show Sub w' T' (.q i 1 0) vB' (((m.bodies ++ [s]).drop m.floor.toNat).map .string)
    rw [drop_snoc _ _ _ (by omega)]
    exact hS
  · simp only [List.getElem?_map] at hg
    obtain ⟨g0, hg0, rfl⟩ := Option.map_eq_some_iff.1 hg
    have hm0 := List.mem_of_getElem? hg0
    exact ⟨(hG k g0 hg0).1.step hs (by intro r hr; simp; omega), rel_enq (s := s) (hG k g0 hg0).2 (h5 g0 hm0) (hok.len g0 hm0) ht.1 rfl rfl⟩

/-- what speaks against a message: n were taken, K are kept -/
def keepX (k : Int) (n K size : Nat) : Int := bif decide (64 < size) then 3 else bif decide (400 ≤ n) then 5 else bif decide (k ≤ (K : Int)) then 4 else 0

set_option maxRecDepth 100000 in
set_option maxHeartbeats 1000000 in
theorem keep_any (i b : Nat) (a0 a1 a2 a4 vB a7 a8 a9 : Value) (kept fl : Int) (n : Nat) (bs : List ByteArray) (s : ByteArray) (w : World) (T : Nat → Tag) (hB : Blk w T (.q i 0 0) b #[a0, a1, a2, .int .i64 kept, a4, .int .i64 fl, vB, a7, a8, a9] 105)
    (hS : Sub w T (.q i 1 0) vB (bs.map .string)) (h0 : 0 ≤ fl) (hn : fl + bs.length = n) (h4 : n ≤ 400) :
    Calls Tryz.prog 41 #[.pointer (some ⟨b, 0, none⟩), .string s] w fun e w' =>
      e = .returned (.tuple #[.int .i64 (bif decide (keepX kept n bs.length s.size = 0) then (n : Int) else 0), .int .i64 (keepX kept n bs.length s.size)]) ∧ ∃ T' vB', Step (fun t => t = .q i 0 0 ∨ t = .q i 1 0) w T w' T' ∧
        Blk w' T' (.q i 0 0) b #[a0, a1, a2, .int .i64 kept, a4, .int .i64 fl, vB', a7, a8, a9] 105 ∧ Sub w' T' (.q i 1 0) vB' ((bif decide (keepX kept n bs.length s.size = 0) then bs ++ [s] else bs).map .string) := by
  by_cases h1 : 64 < s.size
  · have eE : keepX kept n bs.length s.size = 3 := by simp [keepX, h1]
    rw [eE]
    go_enter Tryz.func41, Tryz.ntmps41
    go_wp2
    go_ret2
    exact ⟨by simp, T, vB, Step.refl _ _ _, hB, by simpa using hS⟩
  have hlx : (bs.map Value.string).length = bs.length := by simp
  have hSk := hS
  obtain ⟨ao, cap, rfl, _⟩ := hS
  rw [hlx] at hB hSk
  have lb := hB.lt
  have c5 := hB.cell (j := 5) rfl
  have c6 := hB.cell (j := 6) rfl
  simp only [List.getElem_toArray, List.getElem_cons_succ, List.getElem_cons_zero] at c5 c6
  have hend := qend_any b fl ao bs.length cap w lb c5 c6 h0 (by omega) (by omega)
  rw [hn] at hend
  clear c5 c6
  go_enter Tryz.func41, Tryz.ntmps41
  go_wp2_with fail
  refine hend.mono ?_
  rintro e w1 ⟨rfl, hb1⟩
  have g1 := step_below (fun _ => False) T hb1
  replace hB := hB.step g1 (fun h => h)
  replace hSk := hSk.step g1 (fun h => h)
  have f1 : Step (fun t => t = .q i 0 0 ∨ t = .q i 1 0) w T w1 T := step_below _ T hb1
  clear hb1 g1 hend lb
  by_cases h2 : 400 ≤ n
  · have eE : Hid (keepX kept n bs.length s.size = 5) := hide (by simp [keepX, h1, h2])
    go_wp2
    go_ret2
    exact ⟨by simp [eE.out], T, _, f1, hB, by rw [eE.out]; simpa using hSk⟩
  have hlt := hB.lt
  have c3 := hB.cell (j := 3) rfl
  have c6 := hB.cell (j := 6) rfl
  simp only [List.getElem_toArray, List.getElem_cons_succ, List.getElem_cons_zero] at c3 c6
  go_wp2_with fail
  refine wp_region_over (by kernel_rfl) (by kernel_rfl) ?_
  repeat (go_big_quiet_step (fail))
  refine wpQuiet_nil ?_
  rintro _ ⟨x, rfl⟩
  have hb2 := over_below w1 x
  generalize over w1 x = w2 at *
  have g2 := step_below (fun _ => False) T hb2
  replace f1 := f1.trans (step_below _ T hb2)
  replace hB := hB.step g2 (fun h => h)
  replace hSk := hSk.step g2 (fun h => h)
  clear c3 c6 hlt g2 hb2
  by_cases h3 : kept ≤ (bs.length : Int)
  · have eE : Hid (keepX kept n bs.length s.size = 4) := hide (by simp [keepX, h1, h2, h3])
    go_wp2
    go_ret2
    exact ⟨by simp [eE.out], T, _, f1, hB, by rw [eE.out]; simpa using hSk⟩
  have eE : Hid (keepX kept n bs.length s.size = 0) := hide (by simp [keepX, h1, h2, h3])
  have hlt := hB.lt
  have c6 := hB.cell (j := 6) rfl
  simp only [List.getElem_toArray, List.getElem_cons_succ, List.getElem_cons_zero] at c6
  have hal := step_alloc w2 T (.cells #[.string s] 9) (fun _ => False)
  have hSa := hSk.step hal (fun h => h)
  have hBa := hB.step hal (fun h => h)
  have hcell := cell_one_new w2 (.string s) 9 0 (.string s) rfl
  go_wp2_with (first
    | (at_builtin; refine wpList_append_sub2 rfl _ _ rfl _ _ rfl hSa ⟨w2.heap.size, 0, none⟩ (.string s) rfl hcell rfl rfl bs.length hlx (by omega) ?_; intro ao3 cap3 w3 T3 hS3 hs3; have hB3 := hBa.step hs3 (by simp); have l3 := hB3.lt; have d6 := hB3.cell (j := 6) rfl; have z6 := hB3.frozen 6; simp only [List.getElem_toArray, List.getElem_cons_succ, List.getElem_cons_zero] at d6)
    | go_in)
  go_ret2
  have hs4 : Step (fun t => t = .q i 0 0) w3 T3 (w3.setCell ⟨b, 6, none⟩ (.slice ao3 (bs.length + 1) cap3)) T3 := step_setCell _ _ _ _ _ hB3.1
  refine ⟨by simp [eE.out], T3, f1.trans ((hal.mono (fun _ h => h.elim)).trans ((hs3.mono (fun _ h => .inr h)).trans (hs4.mono (fun _ h => .inl h)))), Value.slice ao3 (bs.length + 1) cap3, by simpa using hB3.set 6 (.slice ao3 (bs.length + 1) cap3), ?_⟩
  rw [eE.out]
  simpa using hS3.step hs4 (by simp)

/-- a record is written behind the log -/
theorem XM.addText {w : World} {T : Nat → Tag} {i b : Nat} {m : MQ} {ls : Nat} (h : XM w T i b m vL (.int .u32 ls) lg) (hs : ls < 4294967296) (hl : lg.length ≤ 1000000000000) (k : UInt8) (p : ByteArray) (hp : p.size ≤ 1000000) :
    Calls Tryz.prog 42 #[.pointer (some ⟨b, 8, none⟩), .int .u8 k.toNat, .string p] w fun e w' => e = .returned (.tuple #[]) ∧ ∃ T' vL', Step (XT i) w T w' T' ∧ XM w' T' i b m vL' (.int .u32 (recS ls k p.data.toList)) (lg ++ recB ls k p.data.toList) := by
  obtain ⟨a6, a7, hB, hL, hre⟩ := h.log
  refine (add_any i b _ _ _ _ _ _ a6 a7 vL ls lg k p w T hB hL hs (by omega)).mono ?_
  rintro e w3 ⟨rfl, T3, vL3, s3, hB3, hL3⟩
  exact ⟨rfl, T3, vL3, s3.mono (fun _ h => LT_XT h), hre w3 T3 vL3 _ _ s3 hB3 hL3⟩

set_option maxRecDepth 100000 in
set_option maxHeartbeats 1000000 in
theorem xenq_any (i b : Nat) (m : MQ) (s : ByteArray) (w : World) (T : Nat → Tag) {ls : Nat} (hx : XM w T i b m vL (.int .u32 ls) lg) (hok : m.Ok) (hls : ls < 4294967296) (hll : lg.length ≤ 1000000000000) : Calls Tryz.prog 14 #[.pointer (some ⟨b, 0, none⟩), .string s] w fun e w' =>
      e = .returned (.tuple #[.int .i64 (bif decide (menqE m s = 0) then (m.bodies.length : Int) else 0), .int .i64 (menqE m s)]) ∧ ∃ T' vL', Step (XT i) w T w' T' ∧
        XM w' T' i b (menqM m s) vL' (.int .u32 (logS (decide (menqE m s = 0)) ls 101 s.data.toList)) (logL (decide (menqE m s = 0)) lg ls 101 s.data.toList) := by
  have hsm := hx.small
  have hfl := hok.fl
  have hlen : (m.bodies.drop m.floor.toNat).length = m.bodies.length - m.floor.toNat := by simp
  have hE : keepX m.c.k m.bodies.length (m.bodies.drop m.floor.toNat).length s.size = menqE m s := by
    have e : ((m.bodies.drop m.floor.toNat).length : Int) = m.bodies.length - m.floor := by rw [hlen]; omega
    simp only [keepX, menqE, enqY, e]
  obtain ⟨vB, mb, f, ps, hB, hS, hrest⟩ := hx.mem
  have hk := keep_any i b _ _ _ _ vB _ _ _ m.c.k m.floor m.bodies.length (m.bodies.drop m.floor.toNat) s w T hB hS hfl.1 (by rw [hlen]; omega) hsm
  rw [hE] at hk
  clear hrest
  go_enter Tryz.func14, Tryz.ntmps14
  go_wp2_with fail
  refine hk.mono ?_
  rintro e w1 ⟨rfl, T1, vB1, s1, hB1, hS1⟩
  have f1 : Step (XT i) w T w1 T1 := s1.mono (fun t ht => by rcases ht with rfl | rfl <;> exact ⟨rfl, rfl⟩)
  have lb1 := hB1.lt
  by_cases hE0 : menqE m s = 0
  · have h4 : m.bodies.length < 400 ∧ s.size ≤ 64 := by
      simp only [menqE, enqY] at hE0
      by_cases a : 64 < s.size
      · simp [a] at hE0
      · by_cases c : 400 ≤ m.bodies.length
        · simp [a, c] at hE0
        · omega
    rw [hE0] at hS1
    simp only [decide_true, cond_true, List.map_append, List.map_cons, List.map_nil] at hS1
    have hx1 := hx.enq hok hE0 h4.1 vB1 s1 (fun vB' mb' hB' => by
      have e2 : mb' = mb := by
        have e1 := (hB.cell (j := 7) rfl).symm.trans (hB'.cell (j := 7) rfl)
        simpa using e1.symm
      subst e2
      exact hB1) hS1
    have hadd := hx1.addText hls hll 101 s (by omega)
    have q0 : Hid (menqE m s = 0) := hide hE0
    have d0 : decide (menqE m s = 0) = true := by simp [hE0]
    clear hx hB hS hB1 hS1 hx1 hk hE
    rw [d0]
    simp only [hE0, cond_true]
    clear d0 hE0
    go_wp2_with fail
    refine hadd.mono ?_
    rintro e w2 ⟨rfl, T2, vL2, s2, hx2⟩
    go_wp2
    go_ret2
    exact ⟨by simp [q0.out], T2, vL2, f1.trans s2, by rw [q0.out]; exact hx2⟩
  · have d0 : decide (menqE m s = 0) = false := by simp [hE0]
    rw [d0] at hS1
    simp only [cond_false] at hS1
    have hx1 : XM w1 T1 i b m vL (.int .u32 ls) lg := by
      obtain ⟨h1, h2, h3, h4, h5, vB', mb', f', ps', hB', hS', hN', hG', hL'⟩ := hx
      have e2 : mb' = mb := by
        have e1 := (hB.cell (j := 7) rfl).symm.trans (hB'.cell (j := 7) rfl)
        simpa using e1.symm
      subst e2
      exact ⟨h1, h2, h3, h4, h5, vB1, mb', f', ps', hB1, hS1, hN'.step s1 (by simp), fun k g hg => ⟨(hG' k g hg).1.step s1 (by intro r hr; simp; omega), (hG' k g hg).2⟩, hL'.step s1 (by simp)⟩
    have eM : menqM m s = m := enq_no hE0
    have q0 := hide hE0
    have dE : decide (menqE m s = 0) = false := d0
    clear hx hB hS hB1 hS1 hk hE d0
    obtain ⟨E, hEE⟩ : ∃ E, Hid (menqE m s = E) := ⟨_, hide rfl⟩
    rw [hEE.out] at dE
    rw [hEE.out] at hE0 ⊢
    rw [dE]
    simp only [cond_false]
    go_wp2
    go_ret2
    exact ⟨by simp [hEE.out, hE0], T1, vL, f1, by rw [eM, hEE.out, decide_eq_false hE0]; exact hx1⟩

/-! names -/
theorem idx_snoc (x s : ByteArray) : ∀ l : List ByteArray, idx x (l ++ [s]) = match idx x l with | some k => some k | none => if s = x then some l.length else none
  | [] => by by_cases h : s = x <;> simp [idx, h]
  | y :: r => by
    have ih := idx_snoc x s r
    simp only [List.cons_append, idx]
    by_cases hy : y = x
    · simp [hy]
    · simp only [hy, decide_false, cond_false, ih]
      cases idx x r with
      | some k => rfl
      | none => by_cases h : s = x <;> simp [h]
theorem idx_lt {x : ByteArray} {l : List ByteArray} {k : Nat} (h : idx x l = some k) : k < l.length := (List.getElem?_eq_some_iff.1 (idx_some h)).1
theorem idx_none {x : ByteArray} : ∀ {l : List ByteArray}, idx x l = none ↔ x ∉ l
  | [] => by simp [idx]
  | y :: r => by
    have ih := idx_none (x := x) (l := r)
    unfold idx
    by_cases hy : y = x
    · simp [hy]
    · simp only [hy, decide_false, cond_false, Option.map_eq_none_iff, ih, List.mem_cons, not_or]
      exact ⟨fun h => ⟨fun e => hy e.symm, h⟩, fun h => h.2⟩
def updN (f : Nat → Nat) (n v : Nat) : Nat → Nat := fun k => if k = n then v else f k

/-- a group more in the map -/
theorem NM.store {w : World} {T : Nat → Tag} {t : Tag} {b : Nat} {names : List ByteArray} {f : Nat → Nat} (h : NM w T t b names f) (hl : names.length ≤ 6) {s : ByteArray} (hs : s.size ≤ 16) (hnew : idx s names = none) (gb : Nat) :
    ∃ w', (Instr.mapUpdate 99 (.map (some b)) (.string s) (.pointer (some ⟨gb, 0, none⟩))).run Tryz.prog w = .ok () w' ∧ NM w' T t b (names ++ [s]) (updN f names.length gb) ∧ Step (fun s => s = t) w T w' T := by
  obtain ⟨hT, n, D, hown, hsz, hhas, hat⟩ := h
  have hkey : keyOf Tryz.prog 9 (.string s) = some (keyL s) := Go.WideMaps.keyOf_string_mk Tryz.underlying9 (by unfold maxLen; omega)
  have hown2 := ownsMap_tight hown
  rw [hsz] at hown2
  obtain ⟨w', hrun, hM, hg⟩ := hown2.update law9 Tryz.underlying99 (by unfold maxLen; omega) hkey (ptrElem_mk gb)
  have hns : Maps.has D (keyL s) = false := by rw [hhas, hnew]; rfl
  refine ⟨w', hrun, ⟨hT, _, _, hM, ?_, fun x => ?_, fun x k hk z => ?_⟩, step_grown hg (fun j hj => by cases hj; exact hT) (fun _ _ => rfl)⟩
  · rw [size_put (hown.tidy law9), hns, hsz]
    simp
  · rw [idx_snoc]
    by_cases hx : x = s
    · subst hx
      rw [has_put_same hown.isMap (keyL_key _), hnew]
      simp
    · rw [has_put_other (fun e => hx (keyL_inj e)), hhas]
      have : ¬ s = x := fun e => hx e.symm
      cases idx x names <;> simp [this]
  · rw [idx_snoc] at hk
    by_cases hx : x = s
    · subst hx
      rw [hnew] at hk
      simp at hk
      rw [atKey_put_same hown.isMap (keyL_key _), ← hk]
      simp [updN]
    · have hsx : ¬ s = x := fun e => hx e.symm
      cases hi : idx x names with
      | none => rw [hi] at hk; simp [hsx] at hk
      | some j =>
        rw [hi] at hk
        simp at hk
        subst hk
        have hj := idx_lt hi
        rw [atKey_put_other (fun e => hx (keyL_inj e)), hat x j hi]
        have : ¬ j = names.length := by omega
        simp [updN, this]

end Go.Proofs.YtockkceclkcgbaaGreatDoor

/- The contracts of the program's join and Group, over the document's queue that it tells. -/
namespace Go.Proofs.YtockkceclkcgbaaGreatDoor
open Go.RowKit Go.Maps
variable {vL vS : Value} {lg : Bs}

attribute [local go_sem] over_cell

theorem at_memB (m : MQ) (s : ByteArray) : (m.at s).isSome = memB s m.names := by
  cases h : m.at s with
  | none =>
    have := idx_none.1 h
    rw [memB_not.2 this]; rfl
  | some k =>
    have := List.mem_of_getElem? (idx_some h)
    rw [memB_iff.2 this]; rfl
theorem NM.len {w : World} {T : Nat → Tag} {t : Tag} {b : Nat} {names : List ByteArray} {f : Nat → Nat} (h : NM w T t b names f) (ty : TypeId) : (Builtin.len_ #[99] ty #[.map (some b)]).run Tryz.prog w = .ok (.int .i64 names.length) w := by
  obtain ⟨_, n, D, hown, hsz, _⟩ := h
  rw [← hsz]
  exact hown.len Tryz.underlying99 ty
theorem grp_no {m : MQ} {s : ByteArray} {fr : Int} (h : mgrpE m s fr ≠ 0) : mgrpM m s fr = m := by simp [mgrpM, h]

def updP (f : Nat → PG) (n : Nat) (v : PG) : Nat → PG := fun k => if k = n then v else f k

/-- what speaks against a group -/
def joinX (names : List ByteArray) (s : ByteArray) (fr least : Int) (n : Nat) : Int := bif btw s.size 1 16 then bif memB s names then 7 else bif decide (6 ≤ names.length) then 8 else bif btw fr least n then 0 else 9 else 6
theorem idx_memB (s : ByteArray) (names : List ByteArray) : (idx s names).isSome = memB s names := by
  cases h : idx s names with
  | none => rw [memB_not.2 (idx_none.1 h)]; rfl
  | some k => rw [memB_iff.2 (List.mem_of_getElem? (idx_some h))]; rfl

set_option maxRecDepth 100000 in
set_option maxHeartbeats 2000000 in
theorem join_any (i b : Nat) (a0 a1 a2 a3 a4 a8 a9 : Value) (fl : Int) (ao : Option Addr) (K cap mb : Nat) (names : List ByteArray) (f : Nat → Nat) (s : ByteArray) (fr least : Int) (n : Nat) (w : World) (T : Nat → Tag)
    (hB : Blk w T (.q i 0 0) b #[a0, a1, a2, a3, a4, .int .i64 fl, .slice ao K cap, .map (some mb), a8, a9] 105) (hN : NM w T (.q i 2 0) mb names f) (h6 : names.length ≤ 6) (hsh : ∀ s ∈ names, s.size ≤ 16) (h0 : 0 ≤ fl) (hn : fl + K = n) (h4 : n ≤ 400) :
    Calls Tryz.prog 107 #[.pointer (some ⟨b, 0, none⟩), .string s, .int .i64 fr, .int .i64 least] w fun e w' => e = .returned (.int .i64 (joinX names s fr least n)) ∧
      ((joinX names s fr least n ≠ 0 ∧ Below w.heap.size w w') ∨ (joinX names s fr least n = 0 ∧ ∃ gb T', Step (fun t => t = .q i 2 0) w T w' T' ∧ NM w' T' (.q i 2 0) mb (names ++ [s]) (updN f names.length gb) ∧ GM w' T' i names.length gb (newP fr))) := by
  go_enter Tryz.func107, Tryz.ntmps107
  go_wp2_with fail
  refine (isName_any _ _).mono ?_
  rintro e w1 ⟨rfl, hb1⟩
  have g1 := step_below (fun _ => False) T hb1
  replace hB := hB.step g1 (fun h => h)
  replace hN := hN.step g1 (fun h => h)
  cases h1 : btw s.size 1 16
  · have eE : Hid (joinX names s fr least n = 6) := hide (by simp [joinX, h1])
    go_wp2
    go_ret
    exact ⟨by rw [eE.out]; rfl, .inl ⟨by rw [eE.out]; decide, hb1⟩⟩
  have hl16 := (btw_true h1).2
  have lb := hB.lt
  have c7 := hB.cell (j := 7) rfl
  simp only [List.getElem_toArray, List.getElem_cons_succ, List.getElem_cons_zero] at c7
  have lks := hN.look hsh s
  have hml := hN.len
  have hms := idx_memB s names
  cases h2 : memB s names
  case true =>
    have eE : Hid (joinX names s fr least n = 7) := hide (by simp [joinX, h1, h2])
    rw [h2] at hms
    obtain ⟨k, ha⟩ := Option.isSome_iff_exists.1 hms
    rw [ha] at lks
    simp only [Option.map_some, ptrO, ptrV] at lks
    go_wp2
    go_ret
    exact ⟨by rw [eE.out]; rfl, .inl ⟨by rw [eE.out]; decide, hb1⟩⟩
  rw [h2] at hms
  have ha : idx s names = none := by simpa using hms
  rw [ha] at lks
  simp only [Option.map_none, ptrO] at lks
  clear hms
  by_cases h3 : 6 ≤ names.length
  · have eE : Hid (joinX names s fr least n = 8) := hide (by simp [joinX, h1, h2, h3])
    go_wp2
    go_ret
    exact ⟨by rw [eE.out]; rfl, .inl ⟨by rw [eE.out]; decide, hb1⟩⟩
  have c5 := hB.cell (j := 5) rfl
  have c6 := hB.cell (j := 6) rfl
  simp only [List.getElem_toArray, List.getElem_cons_succ, List.getElem_cons_zero] at c5 c6
  have hend := qend_any b fl ao K cap w1 lb c5 c6 h0 (by omega) (by omega)
  rw [hn] at hend
  go_wp2_with fail
  refine hend.mono ?_
  rintro e w2 ⟨rfl, hb2⟩
  have f2 : Below w.heap.size w w2 := hb1.trans (hb2.mono hb1.size)
  have g2 := step_below (fun _ => False) T hb2
  replace hB := hB.step g2 (fun h => h)
  replace hN := hN.step g2 (fun h => h)
  clear c5 c6 c7 lb lks hml hend g1 g2 hb1 hb2
  go_wp2_with fail
  refine (between_any _ _ _ _).mono ?_
  rintro e w3 ⟨rfl, hb3⟩
  have f3 : Below w.heap.size w w3 := f2.trans (hb3.mono f2.size)
  have g3 := step_below (fun _ => False) T hb3
  replace hB := hB.step g3 (fun h => h)
  replace hN := hN.step g3 (fun h => h)
  clear hb3 g3 f2
  cases h5 : btw fr least n
  · have eE : Hid (joinX names s fr least n = 9) := hide (by simp [joinX, h1, h2, h3, h5])
    go_wp2
    go_ret
    exact ⟨by rw [eE.out]; rfl, .inl ⟨by rw [eE.out]; decide, f3⟩⟩
  have eE : Hid (joinX names s fr least n = 0) := hide (by simp [joinX, h1, h2, h3, h5])
  have lb := hB.lt
  have c7 := hB.cell (j := 7) rfl
  simp only [List.getElem_toArray, List.getElem_cons_succ, List.getElem_cons_zero] at c7
  have hdr := step_below (fun _ => False) T (Below.refl w3.heap.size w3).drew
  go_wp2_with fail
  go_region_held3 (fun w' => w'.cell? ⟨b, 7, none⟩ = some (.map (some mb))) (go_keep) (first | (go_at_call 140; refine (newGroup_any i names.length fr _ T).mono ?_; rintro e w5 ⟨gb, rfl, T5, hs5, hG5⟩; obtain ⟨w6, hrun6, hN6, hs6⟩ := (hN.step (hdr.trans hs5) (fun h => h)).store (by omega) (by omega) ha gb; have k7 := (hB.step (hdr.trans hs5) (fun h => h)).cell (j := 7) rfl; have k8 := ((hB.step (hdr.trans hs5) (fun h => h)).step hs6 (by simp)).cell (j := 7) rfl; simp only [List.getElem_toArray, List.getElem_cons_succ, List.getElem_cons_zero] at k7 k8))
  go_wp2
  go_ret
  have g5 : Step (fun _ => False) w3 T w5 T5 := hdr.trans hs5
  have g6 : Step (fun t => t = .q i 2 0) w3 T w6 T5 := (g5.mono (fun _ h => h.elim)).trans hs6
  exact ⟨by rw [eE.out]; rfl, .inr ⟨eE.out, gb, T5, (step_below _ T f3).trans g6, hN6, hG5.step hs6 (by intro r hr; simp; omega)⟩⟩

set_option maxRecDepth 100000 in
set_option maxHeartbeats 1000000 in
theorem xgrp_any (i b : Nat) (m : MQ) (s : ByteArray) (fr : Int) (w : World) (T : Nat → Tag) {ls : Nat} (hx : XM w T i b m vL (.int .u32 ls) lg) (hok : m.Ok) (hls : ls < 4294967296) (hll : lg.length ≤ 1000000000000) : Calls Tryz.prog 74 #[.pointer (some ⟨b, 0, none⟩), .string s, .int .i64 fr] w fun e w' =>
      e = .returned (.int .i64 (mgrpE m s fr)) ∧ ∃ T' vL', Step (XT i) w T w' T' ∧ XM w' T' i b (mgrpM m s fr) vL' (.int .u32 (logS (decide (mgrpE m s fr = 0)) ls 103 (namedB s [fr]))) (logL (decide (mgrpE m s fr = 0)) lg ls 103 (namedB s [fr])) := by
  have hl6 := hx.few
  have hfl := hok.fl
  have hsm := hx.small
  have hnl : m.names.length = m.groups.length := by simp [MQ.names]
  have hE : joinX m.names s fr m.floor m.bodies.length = mgrpE m s fr := by unfold joinX mgrpE; rw [hnl]
  obtain ⟨vB, mb, f, ps, hB, hS, hN, hG, hL⟩ := hx.mem
  have hS0 := hS
  obtain ⟨ao, cap, rfl, _⟩ := hS
  have hlx : ((m.bodies.drop m.floor.toNat).map Value.string).length = m.bodies.length - m.floor.toNat := by simp
  have lb := hB.lt
  have c5 := hB.cell (j := 5) rfl
  simp only [List.getElem_toArray, List.getElem_cons_succ, List.getElem_cons_zero] at c5
  have hj := join_any i b _ _ _ _ _ _ _ m.floor ao _ cap mb m.names f s fr m.floor m.bodies.length w T hB hN (by omega) hx.short hfl.1 (by rw [hlx]; omega) hsm
  rw [hE] at hj
  go_enter Tryz.func74, Tryz.ntmps74
  go_wp2_with fail
  refine hj.mono ?_
  rintro e w1 ⟨rfl, h | h⟩
  · obtain ⟨hE0, hb⟩ := h
    have hx1 := hx.below hb
    have eM : mgrpM m s fr = m := grp_no hE0
    obtain ⟨E, hEE⟩ : ∃ E, Hid (mgrpE m s fr = E) := ⟨_, hide rfl⟩
    rw [hEE.out] at hE0 ⊢
    clear hj hE hx hB hS0 hN hG hL
    go_wp2
    go_ret
    exact ⟨by rw [hEE.out]; rfl, T, vL, step_below _ T hb, by rw [eM, hEE.out, decide_eq_false hE0]; exact hx1⟩
  · obtain ⟨hE0, gb, T1, s1, hN1, hG1⟩ := h
    have e0 : mgrpM m s fr = { m with groups := m.groups ++ [⟨s, fr, List.replicate m.bodies.length It.zero, []⟩], changes := wrap64 (m.changes + 1) } := by simp [mgrpM, hE0]
    have hf : btw s.size 1 16 = true ∧ memB s m.names = false ∧ ¬ 6 ≤ m.groups.length ∧ btw fr m.floor m.bodies.length = true := by
      unfold mgrpE at hE0
      cases b1 : btw s.size 1 16
      · rw [b1] at hE0; simp at hE0
      · cases b2 : memB s m.names
        · by_cases b3 : 6 ≤ m.groups.length
          · rw [b1, b2] at hE0; simp [b3] at hE0
          · cases b4 : btw fr m.floor m.bodies.length
            · rw [b1, b2, b4] at hE0; simp [b3] at hE0
            · exact ⟨rfl, rfl, b3, rfl⟩
        · rw [b1, b2] at hE0; simp at hE0
    obtain ⟨h1, h2, h3, h4⟩ := hf
    have hl16 := (btw_true h1).2
    have hfr := btw_true h4
    have hx1 : XM w1 T1 i b (mgrpM m s fr) vL (.int .u32 ls) lg := by
      rw [e0]
      have ht := hok.time
      have hgood := hok.good
      have hd0 : 0 ≤ m.c.d := by
        simp only [goodC, Bool.and_eq_true] at hgood
        have := btw_true hgood.2.1
        omega
      obtain ⟨q1, q2, q3, q4, q5, _⟩ := hx
      have hnames : ({ m with groups := m.groups ++ [⟨s, fr, List.replicate m.bodies.length It.zero, []⟩], changes := wrap64 (m.changes + 1) } : MQ).names = m.names ++ [s] := by simp [MQ.names]
      refine ⟨q1, by simp; omega, ?_, ?_, fun g hg => ?_, _, mb, updN f m.names.length gb, updP ps m.groups.length (newP fr), hB.step s1 (by simp), ?_, by rw [hnames]; exact hN1, fun k g hg => ?_, hL.step s1 (by simp)⟩
      · rw [hnames]
        exact List.nodup_append.2 ⟨q3, by simp, fun a ha' b' hb e => by simp at hb; subst hb; subst e; exact memB_not.1 h2 ha'⟩
      · rw [hnames]
        intro x hx'
        rcases List.mem_append.1 hx' with h | h
        · exact q4 x h
        · simp at h; subst h; omega
      · rcases List.mem_append.1 hg with h | h
        · exact (q5 g h).same rfl rfl
        · simp at h
          subst h
          exact (inv_new (m := m) ht.1 hd0).same rfl rfl
      · exact hS0.step s1 (by simp)
      · rcases Nat.lt_or_ge k m.groups.length with hk | hk
        · simp only [List.getElem?_append_left hk] at hg
          have hk2 : ¬ k = m.names.length := by omega
          have hk3 : ¬ k = m.groups.length := by omega
          simp only [updN, updP, hk2, hk3, if_false]
          exact ⟨(hG k g hg).1.step s1 (by intro r hr; simp; omega), (hG k g hg).2.same rfl rfl⟩
        · simp only [List.getElem?_append_right hk] at hg
          have hk0 : k = m.groups.length := by
            rcases Nat.lt_or_ge (k - m.groups.length) 1 with h2 | h2
            · omega
            · rw [List.getElem?_eq_none (by simpa using h2)] at hg; cases hg
          subst hk0
          simp at hg
          subst hg
          simp only [updN, updP, hnl, if_true]
          rw [hnl] at hG1
          exact ⟨hG1, (rel_new (m := m) ht.1).same rfl rfl⟩
    have hadd := hx1.addOne hls hll 103 s (by omega) fr (by omega) (by omega)
    have lb1 := hx1.lt
    have f1 : Step (XT i) w T w1 T1 := s1.mono (fun t ht => by subst ht; exact ⟨rfl, rfl⟩)
    have q0 : Hid (mgrpE m s fr = 0) := hide hE0
    rw [hE0]
    clear hj hE hx hB hS0 hN hG hL hE0 hx1 e0 hN1 hG1 c5 lb
    go_wp2_with fail
    refine hadd.mono ?_
    rintro e w3 ⟨rfl, T3, vL3, s3, hx3⟩
    go_wp2
    go_ret
    exact ⟨by rw [q0.out]; rfl, T3, vL3, f1.trans s3, by rw [q0.out]; exact hx3⟩

end Go.Proofs.YtockkceclkcgbaaGreatDoor

/- Compact: the log is written anew, the queue is as it was. -/
import Derived.Test.YtockkceclkcgbaaGreatDoorA44
import Derived.Test.YtockkceclkcgbaaGreatDoorA41
import Derived.Test.YtockkceclkcgbaaGreatDoorA43
import Derived.Deep.RegionLaw
import Derived.Deep.CutRange
namespace Go.Proofs.YtockkceclkcgbaaGreatDoor
open Go.RowKit Go.Maps

/-- what Compact writes of a queue -/
def snapQ (q : Core) : Bs := snapB q (sortG q)
def compL (c : Conf) (q : Core) : Bs := recB (seedS c) 99 (snapQ q)
def compS (c : Conf) (q : Core) : Nat := recS (seedS c) 99 (snapQ q)

attribute [local go_sem] over_cell

theorem snapQ_len {c : Conf} {q : Core} (h : COk c q) : (snapQ q).length ≤ 400000 := by
  have hbl : (q.bodies.length : Int) ≤ q.stop := by
    have := h.fl
    show (q.bodies.length : Int) ≤ q.floor + q.bodies.length
    omega
  have hst := h.stop
  have h1 := text_len q.bodies h.short
  have hp := sortG_perm h.once
  have hgl : ∀ p ∈ sortG q, (groupB q p).length ≤ 30000 := fun p hp' => by
    have hm := hp.mem_iff.1 hp'
    have hgk := h.grp p hm
    have hn := h.name p.1 (List.mem_map.2 ⟨p, hm, rfl⟩)
    refine group_len hn.2 (by
      have := hgk.start
      have := h.fl
      show q.stop - max q.floor p.2.start ≤ 400
      omega) ?_ (fun x hx => (hgk.dead x hx).2.2.1)
    have h2 := nodup_ints 400 (p.2.dead.map (·.off)) hgk.once (fun x hx => by
      obtain ⟨y, hy, rfl⟩ := List.mem_map.1 hx
      have h2 := hgk.done y.off (hgk.dead y hy).1
      have h3 := hgk.start
      omega)
    simpa using h2
  have hlen : (sortG q).length ≤ 6 := by rw [hp.length_eq]; exact h.few
  have hfl : ∀ l : List (ByteArray × CG), (∀ p ∈ l, (groupB q p).length ≤ 30000) → (l.flatMap (groupB q)).length ≤ 30000 * l.length := by
    intro l
    induction l with
    | nil => simp
    | cons p r ih =>
      intro hh
      have a := hh p (by simp)
      have b := ih (fun x hx => hh x (by simp [hx]))
      simp only [List.flatMap_cons, List.length_append, List.length_cons]
      omega
  have h3 := hfl _ hgl
  unfold snapQ snapB
  simp only [List.length_append, encN_length]
  omega

set_option maxRecDepth 100000 in
set_option maxHeartbeats 2000000 in
theorem xcompact_any (i b : Nat) (m : MQ) (vL vS : Value) (lg : Bs) (w : World) (T : Nat → Tag) (h : XM w T i b m vL vS lg) (hok : m.Ok) (hcok : COk m.c (coreM m)) :
    Calls Tryz.prog 27 #[.pointer (some ⟨b, 0, none⟩)] w fun e w' => e = .returned (.tuple #[]) ∧ ∃ T' vL', Step (XT i) w T w' T' ∧ XM w' T' i b m vL' (.int .u32 (compS m.c (coreM m))) (compL m.c (coreM m)) := by
  have hgood := hok.good
  have hslen := snapQ_len hcok
  obtain ⟨a6, a7, hB, hL, hmk⟩ := h.log
  have c0 := hB.cell (j := 0) (v := .int .i64 m.c.l) rfl
  have c1 := hB.cell (j := 1) (v := .int .i64 m.c.d) rfl
  have c2 := hB.cell (j := 2) (v := .int .i64 m.c.s) rfl
  have c3 := hB.cell (j := 3) (v := .int .i64 m.c.k) rfl
  have lb := hB.lt
  have hnj := newJournal_any i m.c hgood w T
  unfold Conf.cells at hnj
  go_enter Tryz.func27, Tryz.ntmps27
  go_wp2_with fail
  refine hnj.mono ?_
  clear hnj
  rintro e1 w1 ⟨rfl, T1, s1⟩
  have hB1 := hB.step s1 (by simp)
  have c8 := hB1.cell (j := 8) (v := vL) rfl
  have c9 := hB1.cell (j := 9) (v := vS) rfl
  have z8 := hB1.frozen 8
  have z9 := hB1.frozen 9
  have lb1 := hB1.lt
  have hB2 := (hB1.set 8 (.slice none 0 0)).set 9 (.int .u32 (seedS m.c))
  have s2 : Step (fun t => t = .q i 0 0) w1 T1 ((w1.setCell ⟨b, 8, none⟩ (.slice none 0 0)).setCell ⟨b, 9, none⟩ (.int .u32 (seedS m.c))) T1 := (step_setCell w1 T1 b 8 _ (S := fun t => t = .q i 0 0) hB1.1).trans (step_setCell _ T1 b 9 _ (S := fun t => t = .q i 0 0) hB1.1)
  have s02 : Step (LT i) w T ((w1.setCell ⟨b, 8, none⟩ (.slice none 0 0)).setCell ⟨b, 9, none⟩ (.int .u32 (seedS m.c))) T1 := (s1.mono (fun t h => by subst h; simp [LT])).trans (s2.mono (fun t h => by subst h; simp [LT]))
  have hX2 := hmk _ T1 (.slice none 0 0) (.int .u32 (seedS m.c)) [] s02 hB2 (brow_nil _ _ _)
  clear hB hL hmk hB1 hB2 s1 s2 c0 c1 c2 c3 lb h
  go_wp2_with fail
  clear c8 c9 z8 z9 lb1
  generalize (w1.setCell ⟨b, 8, none⟩ (.slice none 0 0)).setCell ⟨b, 9, none⟩ (.int .u32 (seedS m.c : Nat)) = w2 at *
  have gd := step_below (fun _ => False) T1 (Below.refl w2.heap.size w2).drew
  have hX3 := hX2.stepW (gd.mono (fun _ h => h.elim))
  have hsn := snapshot_any i b m _ _ _ w2.drew T1 hX3 hok hcok
  have hadd : ∀ (w4 : World) (T4 : Nat → Tag), XM w4 T4 i b m (.slice none 0 0) (.int .u32 (seedS m.c)) [] → Calls Tryz.prog 42 #[.pointer (some ⟨b, 8, none⟩), .int .u8 99, .string (mkB (snapB (coreM m) (sortG (coreM m))))] w4 fun e w' => e = .returned (.tuple #[]) ∧ ∃ T' vL', Step (LT i) w4 T4 w' T' ∧ XM w' T' i b m vL' (.int .u32 (compS m.c (coreM m))) (compL m.c (coreM m)) := fun w4 T4 hx4 => by
    obtain ⟨a6, a7, hB4, hL4, hmk4⟩ := hx4.log
    have ha := add_any i b _ _ _ _ _ _ _ _ _ (seedS m.c) [] 99 (mkB (snapB (coreM m) (sortG (coreM m)))) w4 T4 hB4 hL4 (crcF_lt _ _) (by rw [mkB_size]; unfold snapQ at hslen; simp; omega)
    rw [mkB_list] at ha
    refine ha.mono ?_
    rintro e w' ⟨rfl, T', vL', s', hB', hL'⟩
    exact ⟨rfl, T', vL', s', hmk4 w' T' vL' _ _ s' hB' (by simpa [compL, snapQ] using hL')⟩
  generalize snapB (coreM m) (sortG (coreM m)) = sb at *
  go_region_law (first
    | (go_simp; go_at_call 65; refine hsn.mono ?_; clear hsn; rintro e4 w4 ⟨v4, T4, rfl, s4, r4⟩; have hconv := run_bytes_text r4; have hX4 := hX3.stepW s4; have hlb4 : b < w4.heap.size := (by obtain ⟨_, _, _, _, _, _, _, _, _, hB4, _⟩ := hX4; exact hB4.lt))
    | (go_simp; go_at_call 42; refine (hadd _ _ hX4).mono ?_; clear hadd; rintro e5 w5 ⟨rfl, T5, vL5, s5, hX5⟩)
    | go_simp)
  all_goals
    have s05 : Step (XT i) w T w5 T5 := ((s02.mono (fun t h => by rcases h with rfl | rfl | rfl <;> exact ⟨rfl, rfl⟩)).trans (gd.mono (fun _ h => h.elim))).trans ((s4.mono (fun t h => by subst h; exact ⟨rfl, rfl⟩)).trans (s5.mono (fun t h => by rcases h with rfl | rfl | rfl <;> exact ⟨rfl, rfl⟩)))
    clear s02 gd s4 s5 hX2 hX3 hX4 r4
    go_wp2
    go_end0
    exact ⟨rfl, T5, vL5, s05, hX5⟩

end Go.Proofs.YtockkceclkcgbaaGreatDoor

/- The log behind a Compact: it is the queue's, and not too long. -/
namespace Go.Proofs.YtockkceclkcgbaaGreatDoor
open Go.RowKit Go.Maps

/-! behind a Compact -/
theorem log_compact {m : MQ} (hcok : COk m.c (coreM m)) : LogIs m (compL m.c (coreM m)) (compS m.c (coreM m)) := by
  have hlen := snapQ_len hcok
  have hph := phi_bound hcok
  have hl : (compL m.c (coreM m)).length = 12 + (snapQ (coreM m)).length := by unfold compL; rw [recB_length]; omega
  refine ⟨by have := recS_lt (seedS m.c) 99 (snapQ (coreM m)); simpa [compS] using this, hcok, by rw [hl]; omega, { coreM m with gs := sortG (coreM m) }, ?_, ⟨rfl, rfl, sortG_perm hcok.once⟩⟩
  have h := (told_zero m.c).add (k := 99) (d := snapQ (coreM m)) (q' := { coreM m with gs := sortG (coreM m) }) (by omega) (by
    show loadC m.c (snapQ (coreM m)) = _
    exact load_snap m.c (coreM m) hcok _ (sortG_perm hcok.once))
  simpa [compL, compS] using h

def deadCost (l : List Dl) : Nat := (l.map (fun x => 8 + x.body.size)).sum
def keptCost (G : Nat) (l : List ByteArray) : Nat := (l.map (fun b => 8 + b.size + 4 * G)).sum
def grpCost (m : MQ) (l : List MG) : Nat := (l.map (fun g => 32 + g.name.size + deadCost (g.dead.map (deadOf m g)))).sum
theorem deadCost_snoc {l : List Dl} {k : Nat} {x : Dl} (h : l[k]? = some x) : deadCost (l.take (k + 1)) = deadCost (l.take k) + (8 + x.body.size) := by
  obtain ⟨hl, rfl⟩ := List.getElem?_eq_some_iff.1 h
  rw [List.take_succ_eq_append_getElem hl]
  unfold deadCost
  rw [List.map_append, List.sum_append]
  rfl
theorem keptCost_snoc {G : Nat} {l : List ByteArray} {k : Nat} {x : ByteArray} (h : l[k]? = some x) : keptCost G (l.take (k + 1)) = keptCost G (l.take k) + (8 + x.size + 4 * G) := by
  obtain ⟨hl, rfl⟩ := List.getElem?_eq_some_iff.1 h
  rw [List.take_succ_eq_append_getElem hl]
  unfold keptCost
  rw [List.map_append, List.sum_append]
  rfl
theorem grpCost_snoc {m : MQ} {l : List MG} {k : Nat} {g : MG} (h : l[k]? = some g) : grpCost m (l.take (k + 1)) = grpCost m (l.take k) + (32 + g.name.size + deadCost (g.dead.map (deadOf m g))) := by
  obtain ⟨hl, rfl⟩ := List.getElem?_eq_some_iff.1 h
  rw [List.take_succ_eq_append_getElem hl]
  unfold grpCost
  rw [List.map_append, List.sum_append]
  rfl
theorem dead_bytes (l : List Dl) : (l.flatMap deadB).length ≤ deadCost l := by
  induction l with
  | nil => simp [deadCost]
  | cons x r ih =>
    have h3 : x.body.data.toList.length = x.body.size := Array.length_toList
    unfold deadCost at ih ⊢
    simp only [List.flatMap_cons, List.length_append, List.length_cons, deadB, textB, encN_length, List.map_cons, List.sum_cons]
    omega
theorem kept_bytes (G : Nat) (l : List ByteArray) : (l.flatMap textB).length + 4 * G * l.length ≤ keptCost G l := by
  induction l with
  | nil => simp [keptCost]
  | cons x r ih =>
    have h3 : x.data.toList.length = x.size := Array.length_toList
    unfold keptCost at ih ⊢
    simp only [List.flatMap_cons, List.length_append, List.length_cons, textB, List.map_cons, List.sum_cons]
    rw [Nat.mul_add]
    omega
theorem flat_perm {α : Type} (f : α → Bs) {a b : List α} (h : a.Perm b) : (a.flatMap f).length = (b.flatMap f).length := (h.flatMap_right f).length_eq
theorem grp_bytes {m : MQ} {q : Core} {N : Nat} (hN : ∀ g ∈ m.groups, (q.stop - q.first (coreG m g)).toNat ≤ N) : ∀ l : List MG, (∀ g ∈ l, g ∈ m.groups) → ((l.map (fun g => (g.name, coreG m g))).flatMap (groupB q)).length ≤ grpCost m l + N * l.length
  | [], _ => by simp [grpCost]
  | g :: r, h => by
    have ih := grp_bytes hN r (fun x hx => h x (by simp [hx]))
    have h1 := hN g (h g (by simp))
    have h2 := dead_bytes (g.dead.map (deadOf m g))
    have h3 : g.name.data.toList.length = g.name.size := Array.length_toList
    have h4 : (coreG m g).dead = g.dead.map (deadOf m g) := rfl
    unfold grpCost at ih ⊢
    simp only [List.map_cons, List.flatMap_cons, List.length_append, List.length_cons, List.sum_cons, groupB, textB, encN_length, tries_len, h4]
    rw [Nat.mul_add]
    omega
/-- the log behind a Compact is not too long -/
theorem compact_len {m : MQ} (hok : m.Ok) (hcok : COk m.c (coreM m)) : (compL m.c (coreM m)).length ≤ 64 + keptCost m.groups.length (m.bodies.drop m.floor.toNat) + grpCost m m.groups := by
  have hgs : (coreM m).gs = m.groups.map (fun g => (g.name, coreG m g)) := rfl
  have hb : (coreM m).bodies = m.bodies.drop m.floor.toNat := rfl
  have h1 := flat_perm (groupB (coreM m)) (sortG_perm hcok.once)
  rw [hgs] at h1
  have hst := coreM_stop hok
  have hfl := hok.fl
  have h2 := grp_bytes (m := m) (q := coreM m) (N := (m.bodies.drop m.floor.toNat).length) (fun g hg => by
    have : m.floor ≤ (coreM m).first (coreG m g) := by
      show m.floor ≤ max m.floor _
      omega
    rw [hst, List.length_drop]
    omega) m.groups (fun _ h => h)
  have h3 := kept_bytes m.groups.length (m.bodies.drop m.floor.toNat)
  have hl : (compL m.c (coreM m)).length = 12 + (snapQ (coreM m)).length := by unfold compL; rw [recB_length]; omega
  rw [hl]
  unfold snapQ snapB
  simp only [List.length_append, encN_length, hb, h1]
  have h4 : 4 * m.groups.length * (m.bodies.drop m.floor.toNat).length = 4 * ((m.bodies.drop m.floor.toNat).length * m.groups.length) := by rw [Nat.mul_assoc, Nat.mul_comm m.groups.length]
  omega

theorem xcompG_any (i b : Nat) (m : MQ) (gh : Nat × Bs) (w : World) (T : Nat → Tag) (h : XG w T i b m gh) (hok : m.Ok) :
    Calls Tryz.prog 27 #[.pointer (some ⟨b, 0, none⟩)] w fun e w' => e = .returned (.tuple #[]) ∧ ∃ T', Step (XT i) w T w' T' ∧ XG w' T' i b m (compS m.c (coreM m), compL m.c (coreM m)) := by
  obtain ⟨vL, hx, h2, h3⟩ := h
  refine (xcompact_any i b m vL _ _ w T hx hok h2.ok).mono ?_
  rintro e w' ⟨rfl, T', vL', s', hx'⟩
  exact ⟨rfl, T', s', vL', hx', log_compact h2.ok, h3⟩
theorem xlogG_any (i b : Nat) (m : MQ) (gh : Nat × Bs) (w : World) (T : Nat → Tag) (h : XG w T i b m gh) :
    Calls Tryz.prog 26 #[.pointer (some ⟨b, 0, none⟩)] w fun e w' => e = .returned (.string (mkB gh.2)) ∧ w' = w := by
  obtain ⟨vL, hx, h2, h3⟩ := h
  exact xlog_any i b m w T hx
theorem str_ne {a b : Bs} (h : a ≠ b) : ((mkB a).toList == (mkB b).toList) = false := by
  rw [strEq]
  exact decide_eq_false (fun e => h (by rw [← mkB_list a, ← mkB_list b, e]))
theorem str_eq (a : Bs) : ((mkB a).toList == (mkB a).toList) = true := by
  rw [strEq]
  exact decide_eq_true rfl

end Go.Proofs.YtockkceclkcgbaaGreatDoor

/- Copy of the document's queue, and the stand that is appended behind it; the contract of stood. -/
namespace Go.Proofs.YtockkceclkcgbaaGreatDoor
open Go.RowKit

theorem infoSt : (Tryz.prog.info? 98).map (fun i => (i.zero, i.size, i.bytes)) = some (some (.agg #[.int .i64 0, .pointer none]), 2, 16) := by kernel_rfl
theorem cells_newA (w : World) (xs : List Value) (t : TypeId) : ∀ j u, xs[j]? = some u → (w.alloc (.cells xs.toArray t)).cell? ((⟨w.heap.size, 0, none⟩ : Addr).add j) = some u := by
  intro j u hj
  have h := heap_alloc_new w (.cells xs.toArray t)
  rw [Addr.add_lit, Nat.zero_add]
  unfold World.cell?
  simp only [h]
  simpa using hj

abbrev pairCells (bx yb : Nat) (c : Conf) (vs : Value) (lg : ByteArray) : Array Value := #[.pointer (some ⟨bx, 0, none⟩), .pointer (some ⟨yb, 0, none⟩), .int .i64 c.l, .int .i64 c.d, .int .i64 c.s, .int .i64 c.k, vs, .string lg]

theorem ycopy_append (i yb pb bx j : Nat) (hij : i ≠ j) (m : MQ) (B : Int) (lg : ByteArray) (len : Int) (vs : Value) (n : Nat) (xs : List Value) (w : World) (T : Nat → Tag)
    (hY : YQ w T i yb m.rq) (hf : m.Fit B) (hP : Blk w T (.pair i) pb (pairCells bx yb m.c vs lg) 41) (hR : Row w T (.st i) 98 2 vs n xs) (hn : n ≤ 4000000) :
    Calls Tryz.prog 40 #[.pointer (some ⟨yb, 0, none⟩)] w fun e w5 => ∃ p5 g6 cap6 w6 T6, e = .returned (.pointer (some ⟨p5, 0, none⟩)) ∧
      (Builtin.append_ #[39, 39] 39 #[vs, .slice (some ⟨w5.heap.size, 0, none⟩) 1 1]).run Tryz.prog (w5.alloc (.cells #[.int .i64 len, .pointer (some ⟨p5, 0, none⟩)] 98)) = .ok (.slice (some ⟨g6, 0, none⟩) (n + 1) cap6) w6 ∧
      pb < w5.heap.size ∧ w5.cell? ⟨pb, 6, none⟩ = some vs ∧ w5.cell? ⟨pb, 7, none⟩ = some (.string lg) ∧ w6.cell? ⟨pb, 6, none⟩ = some vs ∧ w6.frozen? ⟨pb, 6, none⟩ = false ∧
      Step (CpA i j) w T (w6.setCell ⟨pb, 6, none⟩ (.slice (some ⟨g6, 0, none⟩) (n + 1) cap6)) T6 ∧
      Blk (w6.setCell ⟨pb, 6, none⟩ (.slice (some ⟨g6, 0, none⟩) (n + 1) cap6)) T6 (.pair i) pb (pairCells bx yb m.c (.slice (some ⟨g6, 0, none⟩) (n + 1) cap6) lg) 41 ∧
      YQ (w6.setCell ⟨pb, 6, none⟩ (.slice (some ⟨g6, 0, none⟩) (n + 1) cap6)) T6 i yb m.rq ∧ YQ (w6.setCell ⟨pb, 6, none⟩ (.slice (some ⟨g6, 0, none⟩) (n + 1) cap6)) T6 j p5 m.rq ∧
      Row (w6.setCell ⟨pb, 6, none⟩ (.slice (some ⟨g6, 0, none⟩) (n + 1) cap6)) T6 (.st i) 98 2 (.slice (some ⟨g6, 0, none⟩) (n + 1) cap6) (n + 1) (xs ++ [.int .i64 len, .pointer (some ⟨p5, 0, none⟩)]) ∧ w.heap.size ≤ p5 := by
  have hsm : m.bodies.length ≤ 400 := by have := hY.small; simpa [MQ.rq] using this
  refine (ycopy_any i yb j hij m w T hY hf.ok (hf.dead hsm)).mono ?_
  rintro e w5 ⟨p5, rfl, T5, hs5, hy5, hge⟩
  obtain ⟨i0, hi, hz0, hz1, hz2⟩ := info_parts infoSt
  have hP5 := hP.step hs5 (by simp [CpS])
  have hY5 := hY.step hs5 (by rintro r k (⟨r', k', e⟩ | e); exact hij (congrArg Tag.i e); exact absurd (congrArg Tag.c e) (by simp))
  have hR5 := hR.step hs5 (by simp [CpS])
  have hal := step_alloc w5 T5 (.cells #[.int .i64 len, .pointer (some ⟨p5, 0, none⟩)] 98) (fun _ => False)
  obtain ⟨g6, cap6, w6, T6, hrun6, hR6, hs6⟩ := run_append_row (P := Tryz.prog) (tg := .st i) 39 39 98 i0 _ 2 16 Tryz.underlying39 hi hz0 hz1 hz2 rfl (by decide) vs n xs (hR5.step hal (fun h => h)) ⟨w5.heap.size, 0, none⟩ 1 1 [.int .i64 len, .pointer (some ⟨p5, 0, none⟩)] rfl
    (cells_newA w5 [.int .i64 len, .pointer (some ⟨p5, 0, none⟩)] 98) (by simp [Value.oneCell']) (by decide) (by unfold maxLen; omega) (by omega)
  have hs56 : Step (fun s => s = .st i) w5 T5 w6 T6 := (hal.mono (fun _ h => h.elim)).trans hs6
  have hP6 := hP5.step hs56 (by simp)
  have hset : Step (fun s => s = .pair i) w6 T6 (w6.setCell ⟨pb, 6, none⟩ (.slice (some ⟨g6, 0, none⟩) (n + 1) cap6)) T6 := step_setCell _ _ _ _ _ hP6.1
  refine ⟨p5, g6, cap6, w6, T6, rfl, hrun6, hP5.lt, hP5.cell (j := 6) rfl, hP5.cell (j := 7) rfl, hP6.cell (j := 6) rfl, hP6.frozen 6, ?_, hP6.set 6 _, (hY5.step hs56 (by simp)).step hset (by simp), (hy5.step hs56 (by simp)).step hset (by simp), hR6.step hset (by simp), hge⟩
  exact ((hs5.mono cp_A).trans (hs56.mono (fun t ht => .inr (.inl ht)))).trans (hset.mono (fun t ht => .inl ht))

set_option maxHeartbeats 400000 in
theorem pickq_same (c n : Int) (w : World) (h0 : -9223372036854775808 ≤ c) (h1 : c ≤ 9223372036854775807) (hn : 1 ≤ n) (hn1 : n ≤ 9223372036854775807) :
    Calls Tryz.prog 38 #[.int .i64 c, .int .i64 n] w fun e w' => e = .returned (.int .i64 (pickQ c n)) ∧ w' = w := by
  by_cases hc : c < 0
  · go_enter Tryz.func38, Tryz.ntmps38
    go_wp2
    go_ret
    exact ⟨by simp [pickQ, hc], rfl⟩
  · go_enter Tryz.func38, Tryz.ntmps38
    go_wp2
    go_ret
    refine ⟨?_, rfl⟩
    rw [pickQ, if_neg (by omega), Int.tmod_eq_emod_of_nonneg hc]; rfl

end Go.Proofs.YtockkceclkcgbaaGreatDoor

/- The contract of stood: the log goes on where it stood; a new stand just where it is longer. -/
namespace Go.Proofs.YtockkceclkcgbaaGreatDoor
open Go.RowKit

attribute [local go_sem] over_cell

/-- the stands, and one more -/
theorem StM.more {B : Int} {w w' : World} {T T' : Nat → Tag} {i g cap : Nat} {vs : Value} {c : Conf} {gh : Nat × Bs} {st : List Stand} {s : Stand} (h : StM B w T i vs c gh st) (hs : ∀ x ∈ st, YQ w' T' x.j x.b x.m.rq) (hj : HI ≤ s.j) (hy : YQ w' T' s.j s.b s.m.rq) (hok : SOk B c s) (hl : ∀ a, a.gh = gh → Link a s)
    (hR : Row w' T' (.st i) 98 2 (.slice (some ⟨g, 0, none⟩) (st.length + 1) cap) (st.length + 1) (standCells st ++ [.int .i64 (s.gh.2.length : Int), .pointer (some ⟨s.b, 0, none⟩)])) : StM B w' T' i (.slice (some ⟨g, 0, none⟩) (st.length + 1) cap) c s.gh (st ++ [s]) := by
  refine ⟨?_, fun x hx => ?_, fun k a b h1 h2 => ?_, st, s, rfl, rfl⟩
  · rw [standCells_snoc, List.length_append, List.length_singleton]
    exact hR
  · rcases List.mem_append.1 hx with h1 | h1
    · exact ⟨(h.cps x h1).1, hs x h1, (h.cps x h1).2.2⟩
    · obtain rfl : x = s := by simpa using h1
      exact ⟨hj, hy, hok⟩
  · have hb : k + 1 < (st ++ [s]).length := (List.getElem?_eq_some_iff.1 h2).1
    simp only [List.length_append, List.length_singleton] at hb
    rw [List.getElem?_append_left (by omega)] at h1
    by_cases he : k + 1 < st.length
    · rw [List.getElem?_append_left he] at h2
      exact h.link k a b h1 h2
    · have he2 : k + 1 = st.length := by omega
      rw [he2, List.getElem?_append_right (Nat.le_refl _), Nat.sub_self] at h2
      simp at h2
      subst h2
      obtain ⟨l, x, e, hx⟩ := h.last
      refine hl a ?_
      rw [e] at h1 he2
      simp only [List.length_append, List.length_singleton] at he2
      rw [show k = l.length by omega, List.getElem?_append_right (Nat.le_refl _), Nat.sub_self] at h1
      simp at h1
      rw [← h1]
      exact hx

set_option maxRecDepth 100000 in
set_option maxHeartbeats 4000000 in
theorem stood_any {B : Int} (i p bx yb j : Nat) (m m' : MQ) (gh gh' : Nat × Bs) (vs : Value) (st : List Stand) (ch : Bool) (hch : ch = decide (m'.changes ≠ m.changes)) (w : World) (T : Nat → Tag) (hj : Fresh j w T) (hi : i < HI)
    (hB : Blk w T (.pair i) p (pairCells bx yb m'.c vs (mkB gh.2)) 41) (hx : XG w T i bx m' gh') (hy : YQ w T i yb m'.rq) (hf : m'.Fit B) (hst : StM B w T i vs m'.c gh st) (ho : One m gh m' gh') (hn : (st.length : Int) * 60000 ≤ B) (hlm : B ≤ 200000000000) :
    Calls Tryz.prog 46 #[.pointer (some ⟨p, 0, none⟩), .bool ch] w fun e w' => e = .returned (.bool true) ∧ ∃ T', Step (OneS i j) w T w' T' ∧ PairA B w' T' i p := by
  have hij : i ≠ j := by have := hj.1; omega
  have l0 := hB.lt
  have c0 := hB.cell (j := 0) rfl
  have c7 := hB.cell (j := 7) rfl
  have z7 := hB.frozen 7
  simp only [List.getElem_toArray, List.getElem_cons_succ, List.getElem_cons_zero] at c0 c7
  obtain ⟨_, ho⟩ := ho
  rcases ho with ⟨rfl, he⟩ | ⟨hne, k, d, hk, hd, hgh⟩
  · obtain rfl : ch = false := by rw [hch]; simp [he]
    clear hch he
    have hB1 := hB.set 7 (.string (mkB gh'.2))
    have hs1 : Step (fun s => s = .pair i) w T (w.setCell ⟨p, 7, none⟩ (.string (mkB gh'.2))) T := step_setCell _ _ _ _ _ hB.1
    have hex : (mkB gh'.2).extract 0 (mkB gh'.2).size = mkB gh'.2 := by rw [mkB_size, mkB_take _ _ (Nat.le_refl _), List.take_length]
    have heq := str_eq gh'.2
    have hlog := xlogG_any i bx m' gh' w T hx
    generalize hL : mkB gh'.2 = L at *
    go_enter Tryz.func46, Tryz.ntmps46
    go_wp2_with fail
    refine hlog.mono ?_
    rintro e w1 ⟨rfl, rfl⟩
    go_wp2_with fail
    refine wp_region_over (by kernel_rfl) (by kernel_rfl) ?_
    repeat (go_big_quiet_step (fail))
    refine wpQuiet_nil ?_
    rintro _ ⟨x5, rfl⟩
    have hb5 := step_below (fun _ => False) T (over_below w1 x5)
    generalize over w1 x5 = w5 at *
    have hB5 := hB.step hb5 (fun h => h)
    have l5 := hB5.lt
    have d7 := hB5.cell (j := 7) rfl
    have e7 := hB5.frozen 7
    simp only [List.getElem_toArray, List.getElem_cons_succ, List.getElem_cons_zero] at d7
    have hs6 : Step (fun s => s = .pair i) w5 T (w5.setCell ⟨p, 7, none⟩ (.string L)) T := step_setCell _ _ _ _ _ hB5.1
    have hB6 := hB5.set 7 (.string L)
    have hx6 := (xl 0 (by decide)).step ((xl 0 (by decide)).step hx hb5 (fun _ _ h => h)) hs6 (by rintro t h1 rfl; exact absurd h1.1 (by simp))
    have hy6 := (hy.step hb5 (fun _ _ h => h)).step hs6 (by simp)
    have hst6 := (hst.step hb5 (fun h => h) (fun _ _ _ _ _ h => h)).step hs6 (by simp) (by rintro k _ _ r q h; cases h)
    go_wp2
    go_ret
    refine ⟨by first | rfl | simp, T, (hb5.mono (fun _ h => h.elim)).trans (hs6.mono (fun _ h => .inr (.inl h))), vs, m', gh', st, ⟨bx, yb, m', ?_, ⟨rfl, hx6⟩, hy6, hf⟩, hst6, by omega⟩
    rw [hL]
    exact hB6
  · obtain rfl : ch = true := by rw [hch]; simp [hne]
    clear hch hne
    have hl1 : gh'.2 = gh.2 ++ recB gh.1 k d := by rw [hgh]
    have hlt : (mkB gh.2).size < (mkB gh'.2).size := by rw [mkB_size, mkB_size, hl1, List.length_append, recB_length]; omega
    have hex : (mkB gh'.2).extract 0 (mkB gh.2).size = mkB gh.2 := by rw [mkB_size, mkB_take _ _ (by rw [hl1, List.length_append]; omega), hl1, List.take_left']; rfl
    have heq := str_eq gh.2
    have hlog := xlogG_any i bx m' gh' w T hx
    have hlk : ∀ a : Stand, a.gh = gh → Link a ⟨j, 0, m', gh'⟩ := fun a ha => ⟨k, d, hk, hd, by rw [ha]; exact hgh⟩
    have hLn : Hid ((mkB gh'.2).size = gh'.2.length) := hide (mkB_size _)
    have hb4 : (mkB gh'.2).size ≤ 4000000 := by rw [mkB_size]; exact hx.log.len
    clear hl1 hgh hk hd
    have hnj : ∀ x ∈ st, x.j ≠ j := fun x hx e => by
      obtain ⟨h1, h2⟩ := (hst.cps x hx).2.1.at
      have h3 := hj.2 x.b h1
      rw [h2] at h3
      exact absurd e (Nat.ne_of_lt h3)
    generalize hL : mkB gh.2 = L at *
    generalize hS : mkB gh'.2 = S at *
    have n1 : ¬ ((S.size : Int) < (L.size : Int)) := by omega
    have n2 : decide ((S.size : Int) < (L.size : Int)) = false := by simp; omega
    have n3 : decide ((L.size : Int) < (S.size : Int)) = true := by simp; omega
    have n4 : (L.size : Int) ≤ (S.size : Int) := by omega
    have n5 : L.size ≤ S.size := by omega
    have n6 : decide (S.size < L.size) = false := by simp; omega
    have n7 : ¬ (S.size < L.size) := by omega
    go_enter Tryz.func46, Tryz.ntmps46
    go_wp2_with fail
    refine hlog.mono ?_
    rintro e w1 ⟨rfl, rfl⟩
    go_wp2_with fail
    refine wp_region_over (by kernel_rfl) (by kernel_rfl) ?_
    repeat (go_big_quiet_step (fail))
    refine wpQuiet_nil ?_
    rintro _ ⟨x5, rfl⟩
    have hb5 := step_below (fun _ => False) T (over_below w1 x5)
    generalize over w1 x5 = w5 at *
    have hB5 := hB.step hb5 (fun h => h)
    have l5 := hB5.lt
    have d7 := hB5.cell (j := 7) rfl
    have e7 := hB5.frozen 7
    simp only [List.getElem_toArray, List.getElem_cons_succ, List.getElem_cons_zero] at d7
    have hs6 : Step (fun s => s = .pair i) w5 T (w5.setCell ⟨p, 7, none⟩ (.string S)) T := step_setCell _ _ _ _ _ hB5.1
    have hB6 : Blk (w5.setCell ⟨p, 7, none⟩ (.string S)) T (.pair i) p (pairCells bx yb m'.c vs S) 41 := hB5.set 7 (.string S)
    have hx6 := (xl 0 (by decide)).step ((xl 0 (by decide)).step hx hb5 (fun _ _ h => h)) hs6 (by rintro t h1 rfl; exact absurd h1.1 (by simp))
    have hy6 := (hy.step hb5 (fun _ _ h => h)).step hs6 (by simp)
    have hst6 := (hst.step hb5 (fun h => h) (fun _ _ _ _ _ h => h)).step hs6 (by simp) (by rintro k _ _ r q h; cases h)
    have f6 : Step (fun s => s = .pair i) w1 T (w5.setCell ⟨p, 7, none⟩ (.string S)) T := (hb5.mono (fun _ h => h.elim)).trans hs6
    have hS' : Blk (w5.setCell ⟨p, 7, none⟩ (.string S)) T (.pair i) p (pairCells bx yb m'.c vs S) 41 ∧ p < (w5.setCell ⟨p, 7, none⟩ (.string S)).heap.size := ⟨hB6, hB6.lt⟩
    go_wp2_with fail
    clear hB hB5 hb5 hx hy hst l5 d7 e7 c0 c7 z7 l0 hs6 n1 n2 n3 n4 n5 n6 n7 hex heq hlt hlog
    generalize w5.setCell ⟨p, 7, none⟩ (.string S) = wk at *
    obtain ⟨_, l6⟩ := hS'
    have k1 := hB6.cell (j := 1) rfl
    have k6 := hB6.cell (j := 6) rfl
    simp only [List.getElem_toArray, List.getElem_cons_succ, List.getElem_cons_zero] at k1 k6
    have hdr : Step (fun _ => False) wk T wk.drew T := step_below _ T (Below.refl _ _).drew
    have hcp := ycopy_append i yb p bx j hij m' B S (S.size : Int) vs st.length (standCells st) wk.drew T (hy6.step hdr (fun _ _ h => h)) hf (hB6.step hdr (fun h => h)) (hst6.row.step hdr (fun h => h)) (by omega)
    obtain ⟨vo, vc, hvs⟩ := row_form hst6.row
    subst hvs
    go_region_law (first
      | (refine step_append_known rfl _ _ 39 rfl _ _ _ rfl rfl hrun6 ?_)
      | (go_simp; go_at_call 40; refine hcp.mono ?_; rintro e w7 ⟨p7, g8, cap8, w8, T8, rfl, hrun6, l7, o6, o7, x6, y6, z6, q6, u6, v6, r6, _⟩))
    all_goals
      go_wp2
      go_ret
      have hs9 := (hdr.mono (fun _ h => h.elim)).trans z6
      have hx9 := (xl 0 (by decide)).step hx6 hs9 cpA_x
      refine ⟨by first | rfl | simp, T8, (f6.mono (fun _ h => .inr (.inl h))).trans (hs9.mono cpA_one), _, m', gh', st ++ [⟨j, p7, m', gh'⟩], ⟨bx, yb, m', by rw [hS]; exact q6, ⟨rfl, hx9⟩, u6, hf⟩, hst6.more (s := ⟨j, p7, m', gh'⟩) (fun x hx => ?_) hj.1 v6 (sok_of hx9 hf) (fun a ha => hlk a ha) (by have h := r6; rw [hLn.out] at h; exact h), by simp; omega⟩
      exact (hst6.cps x hx).2.1.step hs9 (by
        rintro r q (h | h | ⟨r', q', h⟩ | h)
        · cases h
        · cases h
        · exact hnj x hx (congrArg Tag.i h)
        · cases h)

end Go.Proofs.YtockkceclkcgbaaGreatDoor

/- The law's world at All: what it is, and what is kept of it when one of its pairs changes. -/
namespace Go.Proofs.YtockkceclkcgbaaGreatDoor
open Go.RowKit

/-- The law's world at All. -/
structure WA (B : Int) (a0 a1 : Addr) (w : World) (T : Nat → Tag) (wb : Nat) (c d : Conf) (most : Int) (ps : List Nat) (q q' : Nat) : Prop where
  blk : WB w T wb c d most ps q q'
  laid : Laid w T a0 a1
  few : ps.length ≤ 17592186044416
  prs : ∀ i p, ps[i]? = some p → PairA B w T i p

theorem WA.mono {B B' : Int} {a0 a1 : Addr} {w : World} {T : Nat → Tag} {wb : Nat} {c d : Conf} {most : Int} {ps : List Nat} {q q' : Nat} (h : WA B a0 a1 w T wb c d most ps q q') (hB : B ≤ B') : WA B' a0 a1 w T wb c d most ps q q' :=
  ⟨h.blk, h.laid, h.few, fun i p hi => (h.prs i p hi).mono hB⟩
theorem WA.keep {B : Int} {a0 a1 : Addr} {S : Tag → Prop} {w w' : World} {T T' : Nat → Tag} {wb : Nat} {c d : Conf} {most : Int} {ps : List Nat} {q q' : Nat} (h : WA B a0 a1 w T wb c d most ps q q') (hs : Step S w T w' T') (h0 : ¬ S .world) (h0' : ¬ S .row) (ho : ¬ S .old) (hb : ∀ t : Tag, 8 ≤ t.c → t.c ≤ 13 → ¬ S t)
    (h1 : ∀ i, i < ps.length → ¬ S (.pair i)) (h2 : ∀ i t, i < ps.length → XT i t → ¬ S t) (h3 : ∀ i r k, i < ps.length → ¬ S (.y i r k)) (h4 : ∀ i, i < ps.length → ¬ S (.st i)) (h5 : Far S w T) : WA B a0 a1 w' T' wb c d most ps q q' := by
  refine ⟨h.blk.step hs h0 h0' hb, h.laid.step hs ho, h.few, fun i p hi => ?_⟩
  have hlt := (List.getElem?_eq_some_iff.1 hi).1
  exact (h.prs i p hi).step hs (h1 i hlt) (fun t ht => h2 i t hlt ht) (fun r k => h3 i r k hlt) (h4 i hlt) h5
theorem WA.step {B : Int} {a0 a1 : Addr} {S : Tag → Prop} {w w' : World} {T T' : Nat → Tag} {wb : Nat} {c d : Conf} {most : Int} {ps : List Nat} {q q' : Nat} (h : WA B a0 a1 w T wb c d most ps q q') (hs : Step S w T w' T') (hS : ∀ t, ¬ S t) : WA B a0 a1 w' T' wb c d most ps q q' :=
  h.keep hs (hS _) (hS _) (hS _) (fun _ _ _ => hS _) (fun _ _ => hS _) (fun _ _ _ _ => hS _) (fun _ _ _ _ => hS _) (fun _ _ => hS _) (fun _ _ _ _ _ => hS _)

/-- another pair behind a call -/
theorem other_call {B : Int} {w w' : World} {T T' : Nat → Tag} {i k p : Nat} (hik : i ≠ k) (hk : k < HI) (hs : Step (CallS k) w T w' T') (h : PairA B w T i p) : PairA B w' T' i p := by
  refine h.step hs (fun h1 => ?_) (fun t h0 h1 => ?_) (fun r j h1 => ?_) (fun h1 => ?_) (far_call hk)
  · rcases h1 with (h | ⟨r, j, h⟩) | h | h
    · exact absurd h.1 (by simp)
    · cases h
    · cases h
    · have := h.1; simp at this
  · rcases h1 with (h | ⟨r, j, h⟩) | h | h
    · exact hik (h0.2.symm.trans h.2)
    · rw [h] at h0; exact absurd h0.1 (by simp)
    · rw [h] at h0; exact absurd h0.1 (by simp)
    · have := h0.1; omega
  · rcases h1 with (h | ⟨r', j', h⟩) | h | h
    · exact absurd h.1 (by simp)
    · exact hik (by cases h; rfl)
    · cases h
    · have := h.1; simp at this
  · rcases h1 with (h | ⟨r', j', h⟩) | h | h
    · exact absurd h.1 (by simp)
    · cases h
    · cases h
    · have := h.2; simp at this
/-- another pair behind stood, crashed or compacted -/
theorem other_one {B : Int} {w w' : World} {T T' : Nat → Tag} {i k j p : Nat} (hik : i ≠ k) (hi : i < HI) (hk : k < HI) (hj : Fresh j w T) (hs : Step (OneS k j) w T w' T') (h : PairA B w T i p) : PairA B w' T' i p := by
  have hjh := hj.1
  refine h.step hs (fun h1 => ?_) (fun t h0 h1 => ?_) (fun r q h1 => ?_) (fun h1 => ?_) (far_one hk hj)
  · rcases h1 with (h | ⟨r, q, h⟩) | h | h | ⟨r, q, h⟩ | h
    · exact absurd h.1 (by simp)
    · cases h
    · exact hik (congrArg Tag.i h)
    · cases h
    · cases h
    · cases h
  · rcases h1 with (h | ⟨r, q, h⟩) | h | h | ⟨r, q, h⟩ | h
    · exact hik (h0.2.symm.trans h.2)
    all_goals rw [h] at h0; exact absurd h0.1 (by simp)
  · rcases h1 with (h | ⟨r', q', h⟩) | h | h | ⟨r', q', h⟩ | h
    · exact absurd h.1 (by simp)
    · exact hik (congrArg Tag.i h)
    · cases h
    · cases h
    · have e : i = j := congrArg Tag.i h
      omega
    · cases h
  · rcases h1 with (h | ⟨r, q, h⟩) | h | h | ⟨r, q, h⟩ | h
    · exact absurd h.1 (by simp)
    · cases h
    · cases h
    · exact hik (congrArg Tag.i h)
    · cases h
    · cases h
theorem one_old {k j : Nat} {t : Tag} (h : OneS k j t) : t ≠ .old := by
  rintro rfl
  rcases h with (h | ⟨r, q, h⟩) | h | h | ⟨r, q, h⟩ | h
  · exact absurd h.1 (by simp)
  all_goals cases h
theorem WB.one {k j : Nat} {w w' : World} {T T' : Nat → Tag} {wb : Nat} {c d : Conf} {most : Int} {ps : List Nat} {q q' : Nat} (h : WB w T wb c d most ps q q') (hs : Step (OneS k j) w T w' T') : WB w' T' wb c d most ps q q' := by
  have n : ∀ t : Tag, t.c ≠ 1 → t.c ≠ 4 → t.c ≠ 5 → t.c ≠ 6 → t.c ≠ 15 → ¬ OneS k j t := by
    rintro t a0 a1 a2 a3 a4 ((h | ⟨r, q, rfl⟩) | rfl | rfl | ⟨r, q, rfl⟩ | rfl)
    · exact a2 h.1
    all_goals simp at a0 a1 a2 a3 a4
  exact h.step hs (n _ (by simp) (by simp) (by simp) (by simp) (by simp)) (n _ (by simp) (by simp) (by simp) (by simp) (by simp)) (fun t h1 h2 => n t (by omega) (by omega) (by omega) (by omega) (by omega))
/-- the world behind stood, crashed or compacted -/
theorem WA.one {B B' : Int} {a0 a1 : Addr} {k j p : Nat} {w w' : World} {T T' : Nat → Tag} {wb : Nat} {c d : Conf} {most : Int} {ps : List Nat} {q q' : Nat} (hB : B ≤ B') (hwb : WB w T wb c d most ps q q') (hl : Laid w T a0 a1) (hfew : ps.length ≤ 17592186044416) (hprs : ∀ i p, i ≠ k → ps[i]? = some p → PairA B w T i p) (hj : Fresh j w T) (hs : Step (OneS k j) w T w' T') (hk : ps[k]? = some p) (hp : PairA B' w' T' k p) : WA B' a0 a1 w' T' wb c d most ps q q' := by
  have hkl := (List.getElem?_eq_some_iff.1 hk).1
  refine ⟨hwb.one hs, hl.step hs (fun h => one_old h rfl), hfew, fun i x hi => ?_⟩
  by_cases hik : i = k
  · subst hik
    rw [hk] at hi
    cases hi
    exact hp
  · have hil := (List.getElem?_eq_some_iff.1 hi).1
    exact (other_one hik (by unfold HI; omega) (by unfold HI; omega) hj hs (hprs i x hik hi)).mono hB

/-- what step leaves -/
def StepA (B : Int) (a0 a1 : Addr) (w : World) (T : Nat → Tag) (wb : Nat) (c d : Conf) (ps : List Nat) (q q' : Nat) (e : Ending) (w' : World) : Prop :=
  e = .returned (.bool true) ∧ ∃ T' ps' q1 q1', Step (fun t => t ≠ .old) w T w' T' ∧ WA (B + 60000) a0 a1 w' T' wb c d 14 ps' q1 q1' ∧ ps.length ≤ ps'.length ∧ ps'.length ≤ ps.length + 1 ∧ q1 ≤ q + 2 ∧ q1' ≤ q' + 2

end Go.Proofs.YtockkceclkcgbaaGreatDoor

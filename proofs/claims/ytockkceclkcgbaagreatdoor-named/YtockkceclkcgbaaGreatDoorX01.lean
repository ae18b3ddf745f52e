/- The contracts of the program's Log, and of Open of an empty log. -/
import Derived.Test.YtockkceclkcgbaaGreatDoorT26
namespace Go.Proofs.YtockkceclkcgbaaGreatDoor
open Go.RowKit Go.Maps
variable {vL vS : Value} {lg : Bs}

attribute [local go_sem] over_cell

set_option maxHeartbeats 1000000 in
theorem xlog_any (i b : Nat) (m : MQ) (w : World) (T : Nat → Tag) (h : XM w T i b m vL vS lg) : Calls Tryz.prog 26 #[.pointer (some ⟨b, 0, none⟩)] w fun e w' => e = .returned (.string (mkB lg)) ∧ w' = w := by
  obtain ⟨a6, a7, hB, hL, _⟩ := h.log
  have lb := hB.lt
  have c8 := hB.cell (j := 8) rfl
  simp only [List.getElem_toArray, List.getElem_cons_succ, List.getElem_cons_zero] at c8
  have hconv := run_bytes_text hL
  obtain ⟨ao, cap, rfl⟩ := row_form hL
  go_enter Tryz.func26, Tryz.ntmps26
  go_wp2
  go_ret
  exact ⟨rfl, rfl⟩

/-- a queue as Open makes it, ahead of its log -/
def freshQ (c : Conf) (mb : Nat) : Array Value := #[.int .i64 c.l, .int .i64 c.d, .int .i64 c.s, .int .i64 c.k, .int .i64 0, .int .i64 0, .slice none 0 0, .map (some mb), .slice none 0 0, .int .u32 (seedS c)]

set_option maxRecDepth 100000 in
set_option maxHeartbeats 2000000 in
/-- Open, over what restore makes of the new queue -/
theorem open_any (c : Conf) (t : ByteArray) (i : Nat) (w : World) (T : Nat → Tag) (P : World → (Nat → Tag) → Nat → Prop) (F : Prop)
    (hres : ∀ (b mb : Nat) (w1 : World) (T1 : Nat → Tag), goodC c = true → Step (XT i) w T w1 T1 → Blk w1 T1 (.q i 0 0) b (freshQ c mb) 105 → NM w1 T1 (.q i 2 0) mb [] (fun _ => 0) →
      Calls Tryz.prog 64 #[.pointer (some ⟨b, 0, none⟩), .string t] w1 fun e w' => ∃ T', Step (XT i) w1 T1 w' T' ∧ ((e = .returned .nilIface ∧ P w' T' b) ∨ (F ∧ ∃ a, e = .returned (.iface 257 (.pointer (some a)))))) :
    Calls Tryz.prog 25 #[.agg c.cells, .string t] w fun e w' => (goodC c = false ∧ e = .returned (.tuple #[.pointer none, .int .i64 1]) ∧ Below w.heap.size w w') ∨
      (goodC c = true ∧ ∃ T', Step (XT i) w T w' T' ∧ ((∃ b, e = .returned (.tuple #[.pointer (some ⟨b, 0, none⟩), .int .i64 0]) ∧ P w' T' b) ∨ (F ∧ e = .returned (.tuple #[.pointer none, .int .i64 2])))) := by
  have hmm := @run_makeMap Tryz.prog
  go_enter Tryz.func25, Tryz.ntmps25
  go_wp2_with fail
  refine (isConfig_any c _).mono ?_
  rintro e w1 ⟨rfl, hb1⟩
  have q1 : ∀ j, w1.cell? ⟨w.heap.size, j, none⟩ = _ := fun j => hb1.cell (p := ⟨w.heap.size, j, none⟩) (by simp)
  have hz1 := hb1.size
  have f1 : Below w.heap.size w w1 := ((Below.refl _ _).alloc (Nat.le_refl _) _).trans (hb1.mono (by simp))
  cases h1 : goodC c
  · go_wp2
    go_ret2
    exact .inl ⟨h1, rfl, f1⟩
  · have hbk := (blk_new w T c.cells 23 .free).step (step_below (fun _ => False) (retag T w.heap.size .free) hb1) (fun h => h)
    have hlt := hbk.lt
    have hc0 := hbk.cell (j := 0) rfl
    have hc1 := hbk.cell (j := 1) rfl
    have hc2 := hbk.cell (j := 2) rfl
    have hc3 := hbk.cell (j := 3) rfl
    simp only [List.getElem_toArray, List.getElem_cons_succ, List.getElem_cons_zero] at hc0 hc1 hc2 hc3
    have hnj := fun (w2 : World) (T2 : Nat → Tag) => newJournal_any i c h1 w2 T2
    unfold Conf.cells at hnj
    clear q1 hb1
    go_wp2_with fail
    obtain ⟨Tr, hTr⟩ : ∃ Tr, Tr = retag (retag T w.heap.size .free) w1.heap.size (.q i 2 0) := ⟨_, rfl⟩
    have htg : ∀ j, j < w.heap.size → Tr j = T j := fun j hj => by rw [hTr, retag_other _ _ _ (by omega), retag_other _ _ _ (by omega)]
    have hbk2 : Blk w1 Tr .free w.heap.size c.cells 23 := ⟨by rw [hTr, retag_other _ _ _ (by omega)]; exact hbk.1, hbk.2⟩
    have hdr := step_below (fun _ => False) Tr (Below.refl w1.heap.size w1).drew
    have hbd := hbk2.step hdr (fun h => h)
    have hmp := step_alloc w1.drew Tr (.map #[] 0) (fun _ => False)
    have hba := hbd.step hmp (fun h => h)
    have m1 := World.ownsMap_made (H := Unit) w1.drew Tryz.prog 9 ptrElem
    have n1 : NM (w1.drew.alloc (.map #[] 0)) Tr (.q i 2 0) w1.heap.size [] (fun _ => 0) := ⟨by rw [hTr]; exact retag_same _ _ _, 0, _, m1, rfl, fun s => rfl, fun s k h => by cases h⟩
    have f1s : Step (XT i) w T w1 Tr := ⟨f1.os, f1.tape, f1.output, f1.size, htg, fun j hj _ => f1.block j hj⟩
    -- the map made ahead of the journal, and behind it
    have hA : ∀ (w3 : World) (T3 : Nat → Tag), Step (fun t => t = .q i 1 2) (w1.drew.alloc (.map #[] 0)) Tr w3 T3 → Calls Tryz.prog 64 #[.pointer (some ⟨w3.heap.size, 0, none⟩), .string t] (w3.alloc (.cells (freshQ c w1.heap.size) 105)) fun e w' => ∃ T', Step (XT i) w T w' T' ∧ ((e = .returned .nilIface ∧ P w' T' w3.heap.size) ∨ (F ∧ ∃ a, e = .returned (.iface 257 (.pointer (some a))))) := fun w3 T3 s3 => by
      have a2 := step_new w3 T3 (.cells (freshQ c w1.heap.size) 105) (.q i 0 0) (fun _ => False)
      have st : Step (XT i) w T (w3.alloc (.cells (freshQ c w1.heap.size) 105)) (retag T3 w3.heap.size (.q i 0 0)) := (f1s.trans ((hdr.trans hmp).mono (fun _ h => h.elim))).trans ((s3.mono (fun t h => by subst h; exact ⟨rfl, rfl⟩)).trans (a2.mono (fun _ h => h.elim)))
      refine (hres w3.heap.size w1.heap.size _ _ h1 st (blk_new w3 T3 (freshQ c w1.heap.size) 105 (.q i 0 0)) ((n1.step s3 (by simp)).step a2 (fun h => h))).mono ?_
      rintro e w5 ⟨T5, s5, h5⟩
      exact ⟨T5, st.trans s5, h5⟩
    have hB : ∀ (w3 : World) (T3 : Nat → Tag), Step (fun t => t = .q i 1 2) w1.drew Tr w3 T3 → Calls Tryz.prog 64 #[.pointer (some ⟨w3.heap.size + 1, 0, none⟩), .string t] ((w3.alloc (.map #[] 0)).alloc (.cells (freshQ c w3.heap.size) 105)) fun e w' => ∃ T', Step (XT i) w T w' T' ∧ ((e = .returned .nilIface ∧ P w' T' (w3.heap.size + 1)) ∨ (F ∧ ∃ a, e = .returned (.iface 257 (.pointer (some a))))) := fun w3 T3 s3 => by
      have a1 := step_new w3 T3 (.map #[] 0) (.q i 2 0) (fun _ => False)
      have m3 := World.ownsMap_made (H := Unit) w3 Tryz.prog 9 ptrElem
      have n3 : NM (w3.alloc (.map #[] 0)) (retag T3 w3.heap.size (.q i 2 0)) (.q i 2 0) w3.heap.size [] (fun _ => 0) := ⟨retag_same _ _ _, 0, _, m3, rfl, fun s => rfl, fun s k h => by cases h⟩
      have z3 : (w3.alloc (.map #[] 0)).heap.size = w3.heap.size + 1 := by simp
      have a2 := step_new (w3.alloc (.map #[] 0)) (retag T3 w3.heap.size (.q i 2 0)) (.cells (freshQ c w3.heap.size) 105) (.q i 0 0) (fun _ => False)
      have b2 := blk_new (w3.alloc (.map #[] 0)) (retag T3 w3.heap.size (.q i 2 0)) (freshQ c w3.heap.size) 105 (.q i 0 0)
      rw [z3] at a2 b2
      have st : Step (XT i) w T ((w3.alloc (.map #[] 0)).alloc (.cells (freshQ c w3.heap.size) 105)) _ := (f1s.trans (hdr.mono (fun _ h => h.elim))).trans ((s3.mono (fun t h => by subst h; exact ⟨rfl, rfl⟩)).trans ((a1.trans a2).mono (fun _ h => h.elim)))
      refine (hres (w3.heap.size + 1) w3.heap.size _ _ h1 st b2 (n3.step a2 (fun h => h))).mono ?_
      rintro e w5 ⟨T5, s5, h5⟩
      exact ⟨T5, st.trans s5, h5⟩
    unfold freshQ at hA hB
    go_region_law (go_simp; go_at_call 63; refine (hnj _ Tr).mono ?_; rintro e w3 ⟨rfl, T3, s3⟩; have hk3 : Blk w3 T3 .free w.heap.size c.cells 23 := (by first | exact hbd.step s3 (by simp) | exact hba.step s3 (by simp)); have k0 := hk3.cell (j := 0) rfl; have k1 := hk3.cell (j := 1) rfl; have k2 := hk3.cell (j := 2) rfl; have k3 := hk3.cell (j := 3) rfl; have kl := hk3.lt; simp only [List.getElem_toArray, List.getElem_cons_succ, List.getElem_cons_zero] at k0 k1 k2 k3)
    all_goals
      go_wp2_with fail
      first
        | refine (hA w3 T3 s3).mono ?_
        | refine (hB w3 T3 s3).mono ?_
      rintro e w5 ⟨T5, s5, (⟨rfl, hP⟩ | ⟨hF, a, rfl⟩)⟩
      · go_wp2
        go_ret2
        exact .inr ⟨h1, T5, s5, .inl ⟨_, rfl, hP⟩⟩
      · go_wp2
        go_ret2
        exact .inr ⟨h1, T5, s5, .inr ⟨hF, rfl⟩⟩

end Go.Proofs.YtockkceclkcgbaaGreatDoor

/- Open of an empty log: what it makes. -/
namespace Go.Proofs.YtockkceclkcgbaaGreatDoor
open Go.RowKit Go.Maps

attribute [local go_sem] over_cell

set_option maxRecDepth 100000 in
set_option maxHeartbeats 2000000 in
theorem restore_empty (c : Conf) (i b mb : Nat) (w : World) (T : Nat → Tag) (hB : Blk w T (.q i 0 0) b (freshQ c mb) 105) (hN : NM w T (.q i 2 0) mb [] (fun _ => 0)) :
    Calls Tryz.prog 64 #[.pointer (some ⟨b, 0, none⟩), .string ⟨#[]⟩] w fun e w' => e = .returned .nilIface ∧ Below w.heap.size w w' := by
  have lb := hB.lt
  have c9 := hB.cell (j := 9) (v := .int .u32 (seedS c)) rfl
  have s1 := step_new w T (.cells #[.string ⟨#[]⟩, .bool false, .int .u32 (seedS c)] 163) .free (fun _ => False)
  have hB1 := hB.step s1 (fun h => h)
  have hN1 := hN.step s1 (fun h => h)
  have hO := blk_new w T #[.string ⟨#[]⟩, .bool false, .int .u32 (seedS c)] 163 .free
  have lo := hO.lt
  have o0 := hO.cell (j := 0) rfl
  have b1 := hB1.lt
  have c7 := hB1.cell (j := 7) (v := .map (some mb)) rfl
  simp only [List.getElem_toArray, List.getElem_cons_zero] at o0
  have f1 : Below w.heap.size w (w.alloc (.cells #[.string ⟨#[]⟩, .bool false, .int .u32 (seedS c)] 163)) := (Below.refl _ _).alloc (Nat.le_refl _) _
  obtain ⟨hTm, nn, D, hown, hsz, hhas, hat⟩ := hN1
  go_enter Tryz.func64, Tryz.ntmps64
  go_wp2_with fail
  refine wp_loop_rounds 1 ?_
  rw [rounds_succ]
  go_wp2_with (first
    | (at_range; refine wpList_range_own _ rfl _ 99 rfl 9 129 law9 Tryz.underlying99 _ mb nn _ rfl hown ?_; intro w3 hrg0 hg0 hs0)
    | go_in)
  refine wp_loop_rounds 1 ?_
  rw [rounds_succ]
  go_wp2_with (first
    | (at_next; refine wpList_next_groups _ rfl _ rfl mb _ nn _ _ _ [] (fun _ => 0) hhas hat rfl hrg0 ?_ ?_)
    | go_in)
  intros
  go_wp2
  go_ret
  exact ⟨rfl, f1.grown hg0 (by simp) (fun k hk => by cases hk)⟩

end Go.Proofs.YtockkceclkcgbaaGreatDoor

/- The document's queue without its times and leases; what a call makes of it is what the record that it writes makes. -/
namespace Go.Proofs.YtockkceclkcgbaaGreatDoor
open Go.RowKit

def coreG (m : MQ) (g : MG) : CG := ⟨g.start, doneTo g.items g.items.length, g.dead.map (deadOf m g), fun n => triesOf (itemAt g.items n)⟩
def coreM (m : MQ) : Core := ⟨m.floor, m.bodies.drop m.floor.toNat, m.groups.map (fun g => (g.name, coreG m g))⟩
theorem rel_core {m : MQ} {g : MG} {p : PG} (hr : RelG m g p) (hd : ∀ x ∈ g.items, 0 ≤ x.done) (hl : g.items.length ≤ 1099511627776) : p.core = coreG m g := by
  have h1 : p.done = doneTo g.items g.items.length := set_is_done hd hl hr.set hr.done
  have h2 : p.tr = fun n => triesOf (itemAt g.items n) := funext hr.tr
  unfold PG.core coreG
  rw [hr.start, h1, hr.dead, h2]
/-- what is known of every group -/
def Rels (m : MQ) : Prop := ∀ g ∈ m.groups, InvG m g ∧ ∃ p, RelG m g p
theorem XM.rels {w : World} {T : Nat → Tag} {i b : Nat} {m : MQ} {vL vS : Value} {lg : Bs} (h : XM w T i b m vL vS lg) : Rels m := fun g hg => by
  obtain ⟨k, hk⟩ := List.getElem?_of_mem hg
  obtain ⟨_, _, _, ps, _, _, _, hG, _⟩ := h.mem
  exact ⟨h.inv g hg, ps k, (hG k g hk).2⟩
theorem coreM_names (m : MQ) : (coreM m).names = m.names := by simp [coreM, Core.names, MQ.names, Function.comp_def]
theorem coreM_stop {m : MQ} (h : m.Ok) : (coreM m).stop = m.bodies.length := by
  have := h.fl
  simp only [coreM, Core.stop, List.length_drop]
  omega
theorem coreM_find {m : MQ} {s : ByteArray} {k : Nat} {g : MG} (hn : m.names.Nodup) (ha : m.at s = some k) (hg : m.groups[k]? = some g) : (coreM m).find s = some (coreG m g) := by
  have hs : g.name = s := by
    obtain ⟨g', h1, h2⟩ := at_group ha
    rw [hg] at h1
    cases h1
    exact h2
  refine (find_mem (by rw [coreM_names]; exact hn)).2 ?_
  rw [← hs]
  exact List.mem_map.2 ⟨g, List.mem_of_getElem? hg, rfl⟩
/-- a call that touches times and leases alone -/
theorem coreM_same {m m' : MQ} (hf : m'.floor = m.floor) (hb : m'.bodies = m.bodies) (hl : m'.groups.length = m.groups.length) (hg : ∀ (k : Nat) g g', m.groups[k]? = some g → m'.groups[k]? = some g' → g'.name = g.name ∧ coreG m' g' = coreG m g) : coreM m' = coreM m := by
  unfold coreM
  rw [hf, hb]
  congr 1
  apply List.ext_getElem?
  intro k
  simp only [List.getElem?_map]
  rcases Nat.lt_or_ge k m.groups.length with hk | hk
  · obtain ⟨g, h1⟩ : ∃ g, m.groups[k]? = some g := ⟨_, List.getElem?_eq_getElem hk⟩
    obtain ⟨g', h2⟩ : ∃ g, m'.groups[k]? = some g := ⟨_, List.getElem?_eq_getElem (by omega)⟩
    obtain ⟨e1, e2⟩ := hg k g g' h1 h2
    rw [h1, h2]
    simp only [Option.map_some, e1, e2]
  · rw [List.getElem?_eq_none hk, List.getElem?_eq_none (by omega)]
    rfl
/-- one group went on -/
theorem coreM_put {m m' : MQ} {s : ByteArray} {k : Nat} {g' : CG} (hn : m.names.Nodup) (ha : m.at s = some k) (hf : m'.floor = m.floor) (hb : m'.bodies = m.bodies) (hl : m'.groups.length = m.groups.length)
    (hk : ∀ g1, m'.groups[k]? = some g1 → g1.name = s ∧ coreG m' g1 = g') (hg : ∀ (j : Nat) g g1, j ≠ k → m.groups[j]? = some g → m'.groups[j]? = some g1 → g1.name = g.name ∧ coreG m' g1 = coreG m g) : coreM m' = (coreM m).put s g' := by
  unfold Core.put
  show coreM m' = ⟨m.floor, m.bodies.drop m.floor.toNat, _⟩
  unfold coreM
  rw [hf, hb]
  congr 1
  apply List.ext_getElem?
  intro j
  simp only [List.getElem?_map]
  rcases Nat.lt_or_ge j m.groups.length with hj | hj
  · obtain ⟨g, h1⟩ : ∃ g, m.groups[j]? = some g := ⟨_, List.getElem?_eq_getElem hj⟩
    obtain ⟨g1, h2⟩ : ∃ g, m'.groups[j]? = some g := ⟨_, List.getElem?_eq_getElem (by omega)⟩
    have hname : g.name = s ↔ j = k := by
      have h3 : m.names[j]? = some g.name := by simp [MQ.names, h1]
      have h4 : m.names[k]? = some s := idx_some ha
      constructor
      · intro e
        rw [e] at h3
        exact (List.getElem?_inj (List.getElem?_eq_some_iff.1 h3).1 hn).1 (h3.trans h4.symm)
      · intro e
        subst e
        rw [h3] at h4
        exact Option.some.inj h4
    rw [h1, h2]
    simp only [Option.map_some]
    by_cases e : j = k
    · subst e
      obtain ⟨e1, e2⟩ := hk g1 h2
      simp only [e1, e2, hname.2 rfl, if_true]
    · obtain ⟨e1, e2⟩ := hg j g g1 e h1 h2
      have : ¬ g.name = s := fun x => e (hname.1 x)
      simp only [e1, e2, this, if_false]
  · rw [List.getElem?_eq_none hj, List.getElem?_eq_none (by omega)]
    rfl

/-! what is read of a record with a name -/
theorem enc2 (n : Nat) : encN 2 n = [UInt8.ofNat (n / 256), UInt8.ofNat n] := by simp [encN]
theorem pairs_nums : ∀ ns : List Int, (∀ n ∈ ns, 0 ≤ n ∧ n < 65536) → pairsOf (numsB ns) = (ns, [], false)
  | [], _ => rfl
  | n :: r, h => by
    have hn := h n (by simp)
    have ih := pairs_nums r (fun x hx => h x (by simp [hx]))
    have e : numsB (n :: r) = UInt8.ofNat (n.toNat / 256) :: UInt8.ofNat n.toNat :: numsB r := by
      simp [numsB, enc2]
    have hd := decN_enc (w := 2) (n := n.toNat) (by omega)
    rw [enc2] at hd
    rw [e, pairsOf, ih, hd]
    simp only [Prod.mk.injEq, List.cons.injEq, and_true]
    omega
theorem read_named (s : ByteArray) (ns : List Int) (hs : s.size ≤ 255) (hns : ∀ n ∈ ns, 0 ≤ n ∧ n < 65536) : (Rd.mk (namedB s ns) false).text = (s.data.toList, ⟨numsB ns, false⟩) ∧ (Rd.mk (numsB ns) false).nums = (ns, ⟨[], false⟩) := by
  refine ⟨text_enc s (numsB ns) (by omega), ?_⟩
  unfold Rd.nums
  rw [if_neg (by simp), pairs_nums ns hns]
theorem replay_named {c : Conf} {q : Core} {new : Bool} {k : UInt8} (s : ByteArray) (ns : List Int) (hk : k = 114 ∨ k = 103 ∨ k = 97) (hs : s.size ≤ 255) (hns : ∀ n ∈ ns, 0 ≤ n ∧ n < 65536) : replayC c q new k (namedB s ns) = replayN c q k s ns := by
  obtain ⟨h1, h2⟩ := read_named s ns hs hns
  have e1 : k ≠ 101 := by rcases hk with rfl | rfl | rfl <;> decide
  have e2 : k ≠ 102 := by rcases hk with rfl | rfl | rfl <;> decide
  have e3 : k ≠ 99 := by rcases hk with rfl | rfl | rfl <;> decide
  unfold replayC
  rw [if_neg e1, if_neg e2, if_neg e3]
  simp only [h1, h2, mkB_data]
  simp [Rd.ended]

/-- The log lg, of sum s, is that of the queue m. -/
structure LogIs (m : MQ) (lg : Bs) (s : Nat) : Prop where
  lt : s < 4294967296
  ok : COk m.c (coreM m)
  short : (lg.length : Int) ≤ 130 * phi (coreM m) + 450000
  told : ∃ q, Told m.c lg q s ∧ Same q (coreM m)
theorem LogIs.len {m : MQ} {lg : Bs} {s : Nat} (h : LogIs m lg s) : lg.length ≤ 4000000 := by
  have h1 := phi_bound h.ok
  have h2 := h.short
  omega
theorem LogIs.same {m m' : MQ} {lg : Bs} {s : Nat} (h : LogIs m lg s) (hc : m'.c = m.c) (hm : coreM m' = coreM m) : LogIs m' lg s := by
  obtain ⟨h1, h2, h3, h4⟩ := h
  exact ⟨h1, by rw [hc, hm]; exact h2, by rw [hm]; exact h3, by rw [hc, hm]; exact h4⟩
theorem LogIs.add {m m' : MQ} {lg : Bs} {s : Nat} (h : LogIs m lg s) (hc : m'.c = m.c) {k : UInt8} {d : Bs} (hd : d.length < 256 ^ 3) (hr : ∀ q, Same q (coreM m) → ∃ q', replayC m.c q (decide (lg = [])) k d = some q' ∧ Same q' (coreM m')) (hok : COk m.c (coreM m'))
    (hp : (12 + d.length : Nat) ≤ 130 * (phi (coreM m') - phi (coreM m))) : LogIs m' (lg ++ recB s k d) (recS s k d) := by
  obtain ⟨h1, h2, h3, q, hT, hS⟩ := h
  obtain ⟨q', hq, hS'⟩ := hr q hS
  refine ⟨by have := recS_lt s k d; simpa using this, by rw [hc]; exact hok, ?_, q', by rw [hc]; exact hT.add hd hq, hS'⟩
  rw [List.length_append, recB_length]
  omega

end Go.Proofs.YtockkceclkcgbaaGreatDoor

/- What each call of the document's queue makes of the log: it stays that of the queue. -/
namespace Go.Proofs.YtockkceclkcgbaaGreatDoor
open Go.RowKit

/-- What is leased was delivered. -/
def Lsd (m : MQ) : Prop := ∀ g ∈ m.groups, ∀ x ∈ g.items, m.time < x.till → 0 < x.tries

theorem small_items {m : MQ} (hok : m.Ok) (hsm : m.bodies.length ≤ 400) {g : MG} (hg : g ∈ m.groups) : g.items.length ≤ 1099511627776 := by rw [hok.len g hg]; omega
theorem good_kept {m : MQ} (hok : m.Ok) : 0 ≤ m.c.k := by have := good_all hok.good; omega

/-! a message -/
theorem enq_core {m : MQ} {t : ByteArray} (hr : Rels m) (hok : m.Ok) (hsm : m.bodies.length ≤ 400) (hE : menqE m t = 0) : coreM (menqM m t) = (coreM m).keep t := by
  have hfl := hok.fl
  rw [enq_groups hE]
  unfold coreM Core.keep
  congr 1
  · show (m.bodies ++ [t]).drop m.floor.toNat = _
    rw [List.drop_append_of_le_length (by omega)]
  · rw [List.map_map]
    apply List.map_congr_left
    intro g hg
    obtain ⟨hi, p, hp⟩ := hr g hg
    have h1 := rel_core hp hi.done (small_items hok hsm hg)
    have h2 := rel_enq (s := t) (ms := { m with bodies := m.bodies ++ [t], groups := m.groups.map (fun g => { g with items := g.items ++ [It.zero] }), changes := wrap64 (m.changes + 1) }) hp hi (hok.len g hg) hok.time.1 rfl rfl
    have h3 := rel_core h2 (fun x hx => by
      rcases List.mem_append.1 hx with h | h
      · exact hi.done x h
      · simp at h; rw [h]; simp) (by simp [hok.len g hg]; omega)
    show (g.name, coreG _ { g with items := g.items ++ [It.zero] }) = (g.name, coreG m g)
    rw [← h3, ← h1]
theorem keepE_same {m : MQ} {t : ByteArray} (hok : m.Ok) : (coreM m).keepE m.c t = menqE m t := by
  have hfl := hok.fl
  have h1 := coreM_stop hok
  have h2 : ((coreM m).bodies.length : Int) = m.bodies.length - m.floor := by
    simp only [coreM, List.length_drop]
    omega
  unfold Core.keepE menqE enqY
  rw [h1, h2]
  by_cases a : 400 ≤ m.bodies.length
  · have a' : (400 : Int) ≤ (m.bodies.length : Int) := by omega
    simp [a, a']
  · have a' : ¬ (400 : Int) ≤ (m.bodies.length : Int) := by omega
    simp [a, a']
theorem log_enq {m : MQ} {lg : Bs} {s : Nat} {t : ByteArray} (h : LogIs m lg s) (hr : Rels m) (hok : m.Ok) (hsm : m.bodies.length ≤ 400) : LogIs (menqM m t) (logL (decide (menqE m t = 0)) lg s 101 t.data.toList) (logS (decide (menqE m t = 0)) s 101 t.data.toList) := by
  by_cases hE : menqE m t = 0
  · have hc := enq_core hr hok hsm hE
    have hk : (coreM m).keepE m.c t = 0 := by rw [keepE_same hok, hE]
    have hsz : t.size ≤ 64 := by
      unfold menqE enqY at hE
      by_cases a : 64 < t.size
      · simp [a] at hE
      · omega
    have hl : t.data.toList.length = t.size := Array.length_toList
    rw [hE]
    refine h.add (by rw [enq_groups hE]) (by rw [hl]; omega) (fun q hq => ⟨q.keep t, ?_, by rw [hc]; exact hq.keep t⟩) (by rw [hc]; exact cok_keep h.ok hk) (by rw [hc, phi_keep, hl]; omega)
    unfold replayC
    rw [if_pos rfl, mkB_data, hq.keepE, hk]
    rfl
  · rw [decide_eq_false hE, enq_no hE]
    exact h
theorem lsd_enq {m : MQ} {t : ByteArray} (h : Lsd m) (hok : m.Ok) : Lsd (menqM m t) := by
  by_cases hE : menqE m t = 0
  · rw [enq_groups hE]
    intro g hg x hx hlt
    simp only [List.mem_map] at hg
    obtain ⟨g0, h0, rfl⟩ := hg
    rcases List.mem_append.1 hx with h1 | h1
    · exact h g0 h0 x h1 hlt
    · simp at h1
      subst h1
      have := hok.time
      simp at hlt
      omega
  · rw [enq_no hE]; exact h

/-! a group -/
theorem joinE_same {m : MQ} {s : ByteArray} {fr : Int} (hok : m.Ok) : (coreM m).joinE s fr (coreM m).floor = mgrpE m s fr := by
  unfold Core.joinE mgrpE
  rw [coreM_names, coreM_stop hok]
  simp [coreM]
theorem grp_core {m : MQ} {s : ByteArray} {fr : Int} (hok : m.Ok) (hsm : m.bodies.length ≤ 400) (hE : mgrpE m s fr = 0) : coreM (mgrpM m s fr) = (coreM m).join s fr := by
  have e0 : mgrpM m s fr = { m with groups := m.groups ++ [⟨s, fr, List.replicate m.bodies.length It.zero, []⟩], changes := wrap64 (m.changes + 1) } := by simp [mgrpM, hE]
  have hn : coreG m ⟨s, fr, List.replicate m.bodies.length It.zero, []⟩ = CG.new fr := by
    have h1 := rel_new (m := m) (s := s) (fr := fr) hok.time.1
    have h2 := rel_core h1 (fun x hx => by rw [(List.mem_replicate.1 hx).2]; simp) (by simp; omega)
    rw [← h2]
    rfl
  rw [e0]
  unfold coreM Core.join
  show (⟨m.floor, _, (m.groups ++ [_]).map _⟩ : Core) = ⟨m.floor, _, _⟩
  congr 1
  rw [List.map_append]
  congr 1
  show [(s, coreG _ _)] = [(s, CG.new fr)]
  rw [← hn]
  rfl
theorem grp_size {m : MQ} {s : ByteArray} {fr : Int} (hE : mgrpE m s fr = 0) : (1 ≤ s.size ∧ s.size ≤ 16) ∧ m.floor ≤ fr ∧ fr ≤ m.bodies.length := by
  unfold mgrpE at hE
  cases b1 : btw s.size 1 16
  · rw [b1] at hE; simp at hE
  · cases b2 : memB s m.names
    · by_cases b3 : 6 ≤ m.groups.length
      · rw [b1, b2] at hE; simp [b3] at hE
      · cases b4 : btw fr m.floor m.bodies.length
        · rw [b1, b2, b4] at hE; simp [b3] at hE
        · have h1 := btw_true b1
          have h2 := btw_true b4
          omega
    · rw [b1, b2] at hE; simp at hE
theorem log_grp {m : MQ} {lg : Bs} {s : Nat} {nm : ByteArray} {fr : Int} (h : LogIs m lg s) (hok : m.Ok) (hsm : m.bodies.length ≤ 400) : LogIs (mgrpM m nm fr) (logL (decide (mgrpE m nm fr = 0)) lg s 103 (namedB nm [fr])) (logS (decide (mgrpE m nm fr = 0)) s 103 (namedB nm [fr])) := by
  by_cases hE : mgrpE m nm fr = 0
  · have hc := grp_core hok hsm hE
    have hj := joinE_same (m := m) (s := nm) (fr := fr) hok
    rw [hE] at hj
    have hsz := grp_size hE
    have hfl := hok.fl
    have hl := namedB_length nm [fr]
    simp only [List.length_singleton] at hl
    rw [hE]
    refine h.add (by simp [mgrpM, hE]) (by rw [hl]; omega) (fun q hq => ⟨q.join nm fr, ?_, by rw [hc]; exact hq.join nm fr⟩) (by rw [hc]; exact cok_join h.ok hj) (by rw [hc, phi_join, hl]; omega)
    rw [replay_named nm [fr] (by decide) (by omega) (by simp; omega)]
    unfold replayN
    have hq2 : q.joinE nm fr q.floor = 0 := by rw [hq.floor, hq.joinE]; exact hj
    rw [if_neg (by decide)]
    show (if (103 : UInt8) = 103 then (bif decide (q.joinE nm fr q.floor = 0) then some (q.join nm fr) else none) else _) = _
    rw [if_pos rfl, hq2]
    rfl
  · rw [decide_eq_false hE, grp_no hE]
    exact h
theorem lsd_grp {m : MQ} {nm : ByteArray} {fr : Int} (h : Lsd m) (hok : m.Ok) : Lsd (mgrpM m nm fr) := by
  by_cases hE : mgrpE m nm fr = 0
  · have e0 : mgrpM m nm fr = { m with groups := m.groups ++ [⟨nm, fr, List.replicate m.bodies.length It.zero, []⟩], changes := wrap64 (m.changes + 1) } := by simp [mgrpM, hE]
    rw [e0]
    intro g hg x hx hlt
    rcases List.mem_append.1 hg with h1 | h1
    · exact h g h1 x hx hlt
    · simp at h1
      subst h1
      rw [(List.mem_replicate.1 hx).2] at hlt
      have := hok.time
      simp at hlt
      omega
  · rw [grp_no hE]; exact h

/-! an Ack -/
theorem finish_core (p : PG) (n : Int) : (finishP p n).core = p.core.finish n n := by
  rw [← finishR_one]
  rfl
theorem log_ack {m : MQ} {lg : Bs} {s : Nat} {nm : ByteArray} {off tr : Int} (h : LogIs m lg s) (hr : Rels m) (hok : m.Ok) (hsm : m.bodies.length ≤ 400) (hn : m.names.Nodup) (hsh : ∀ x ∈ m.names, x.size ≤ 16) (hl : Lsd m) :
    LogIs (ackM m nm off tr) (logL (decide (leasedE m nm off tr = 0)) lg s 97 (namedB nm [off])) (logS (decide (leasedE m nm off tr = 0)) s 97 (namedB nm [off])) := by
  by_cases hE : leasedE m nm off tr = 0
  · cases ha : m.at nm with
    | none => simp [leasedE, ha] at hE
    | some k =>
      obtain ⟨g, hg, hgn⟩ := at_group ha
      obtain ⟨n, x, rfl, hxi, hnl, hd, hlt⟩ := leased_item hok ha hg hE
      have hgm := List.mem_of_getElem? hg
      have hsz : nm.size ≤ 16 := hsh nm (List.mem_of_getElem? (idx_some ha))
      have htr := hl g hgm x (List.mem_of_getElem? hxi) hlt
      obtain ⟨hi, p, hp⟩ := hr g hgm
      have hout : m.floor ≤ n ∧ g.start ≤ n := by
        have h1 := hE
        unfold leasedE at h1
        simp only [ha, hg] at h1
        cases ho : outside m g n with
        | true => rw [ho] at h1; simp at h1
        | false => simp [outside] at ho; omega
      have eM : ackM m nm n tr = { m.setI k n { x with done := 1 } with changes := wrap64 (m.changes + 1) } := by simp [ackM, hE, onLeased_ok ha hg hxi]
      have hgk : ({ m.setI k n { x with done := 1 } with changes := wrap64 (m.changes + 1) } : MQ).groups[k]? = some { g with items := g.items.set n { x with done := 1 } } := by
        show (m.setI k n { x with done := 1 }).groups[k]? = _
        rw [setI_group, hg]; simp
      have hcg : coreG { m.setI k n { x with done := 1 } with changes := wrap64 (m.changes + 1) } { g with items := g.items.set n { x with done := 1 } } = (coreG m g).finish n n := by
        have h1 := rel_core hp hi.done (small_items hok hsm hgm)
        have h2 := rel_finish (d := 1) (ms := { m.setI k n { x with done := 1 } with changes := wrap64 (m.changes + 1) }) hp hxi (by omega) (by decide) rfl rfl
        have h3 := rel_core h2 (mem_set hi.done (by simp)) (by simp [hok.len g hgm]; omega)
        rw [← h3, finish_core, h1]
      have hc : coreM (ackM m nm n tr) = (coreM m).put nm ((coreG m g).finish n n) := by
        rw [eM]
        refine coreM_put hn ha rfl rfl setI_len (fun g1 h1 => ?_) (fun j g0 g1 hj h0 h1 => ?_)
        · rw [hgk] at h1
          cases h1
          exact ⟨hgn, hcg⟩
        · have h2 : (m.setI k n { x with done := 1 }).groups[j]? = some g1 := h1
          rw [setI_group, h0] at h2
          have : ¬ k = j := fun e => hj e.symm
          simp [this] at h2
          subst h2
          exact ⟨rfl, rfl⟩
      have hf := coreM_find hn ha hg
      have hgk0 : GOk m.c (coreM m) (coreG m g) := h.ok.grp (nm, coreG m g) ((find_mem (by rw [coreM_names]; exact hn)).1 hf)
      have htr1 : (coreG m g).tr n = x.tries := by
        show triesOf (itemAt g.items n) = _
        rw [itemAt_nat, hxi]
        simp [triesOf, hd]
      have hnd : hasB (coreG m g).done n = false := by
        cases hh : hasB (coreG m g).done n with
        | false => rfl
        | true => have := hgk0.gone n hh; omega
      have hst := coreM_stop hok
      have hfin := gok_finish hgk0 h.ok.fl h.ok.stop (show (coreM m).first (coreG m g) ≤ n by show max m.floor g.start ≤ _; omega) (show (n : Int) < (coreM m).stop by omega)
      have hph := phiG_finish h.ok hgk0 (show (0 : Int) ≤ n by omega) (by omega) hnd
      have hlen := namedB_length nm [(n : Int)]
      simp only [List.length_singleton] at hlen
      rw [hE]
      refine h.add (by rw [eM]; rfl) (by rw [hlen]; omega) (fun q hq => ⟨q.put nm ((coreG m g).finish n n), ?_, by rw [hc]; exact hq.put nm _⟩) (by rw [hc]; exact cok_put h.ok hfin) (by rw [hc, phi_put (by rw [coreM_names]; exact hn) hf, hlen]; omega)
      rw [replay_named nm [(n : Int)] (by decide) (by omega) (by simp; omega)]
      unfold replayN
      have hqf : q.find nm = some (coreG m g) := by rw [hq.find (by rw [coreM_names]; exact hn)]; exact hf
      have hnz : decide ((coreG m g).tr n = 0) = false := by rw [htr1]; simp; omega
      rw [if_neg (by decide)]
      simp only [hqf, hnz, cond_false]
      rw [if_neg (by decide), if_pos trivial]
  · have eM : ackM m nm off tr = m := by simp [ackM, hE]
    rw [decide_eq_false hE, eM]
    exact h

/-! a Retain -/
theorem least_core {m : MQ} (hr : Rels m) (hok : m.Ok) (hsm : m.bodies.length ≤ 400) : (coreM m).least = (leastTo m m.groups.length : Nat) := by
  have hmk : ∀ g ∈ m.groups, gapI (coreG m g).done (coreG m g).start = (markOf g : Nat) := fun g hg => by
    obtain ⟨hi, p, hp⟩ := hr g hg
    have h1 := rel_core hp hi.done (small_items hok hsm hg)
    rw [← h1]
    have hst := hok.start g hg
    show gapI p.done p.start = _
    rw [hp.start]
    obtain ⟨a, ha⟩ : ∃ a : Nat, g.start = a := ⟨g.start.toNat, by omega⟩
    rw [ha, gap_mark hp.set hp.done, markOf, ha]
    rfl
  unfold Core.least
  rw [coreM_stop hok]
  have key : ∀ K, K ≤ m.groups.length → ((coreM m).gs.take K).foldl (fun a p => min a (gapI p.2.done p.2.start)) (m.bodies.length : Int) = (leastTo m K : Nat) := by
    intro K
    induction K with
    | zero => intro _; rfl
    | succ K ih =>
      intro hK
      obtain ⟨g, hg⟩ : ∃ g, m.groups[K]? = some g := ⟨_, List.getElem?_eq_getElem (by omega)⟩
      have hgs : (coreM m).gs[K]? = some (g.name, coreG m g) := by simp [coreM, hg]
      obtain ⟨hk', e⟩ := List.getElem?_eq_some_iff.1 hgs
      rw [← List.take_append_getElem hk', List.foldl_append, ih (by omega), e]
      simp only [List.foldl_cons, List.foldl_nil, leastTo, hg, hmk g (List.mem_of_getElem? hg)]
      omega
  have hl : (coreM m).gs.length = m.groups.length := by simp [coreM]
  have := key m.groups.length (Nat.le_refl _)
  rw [← hl, List.take_length] at this
  rw [this, hl]
theorem ret_core {m : MQ} (hr : Rels m) (hok : m.Ok) (hsm : m.bodies.length ≤ 400) : (coreM m).gone m.c = retainN m ∧ coreM (retainM m) = (coreM m).release m.c := by
  have hl := least_core hr hok hsm
  have hseg := good_seg hok.good
  obtain ⟨Fn, e1, e2, _⟩ := retain_words m (leastTo m m.groups.length) rfl hseg.1
  have hgt : (coreM m).goTo m.c = retainTo m := by
    unfold Core.goTo
    rw [hl, e1]
    exact e2
  have hst : (coreM m).stays m.c = retainB m := by
    have hl2 : (coreM m).gs.length = m.groups.length := by simp [coreM]
    unfold Core.stays retainB
    rw [hgt, hl2]
    rfl
  refine ⟨?_, ?_⟩
  · unfold Core.gone retainN
    rw [hst, hgt]
    rfl
  · unfold Core.release retainM
    rw [hst, hgt]
    cases hb : retainB m
    · unfold retainB at hb
      simp at hb
      have hfl := hok.fl
      simp only [cond_false]
      show (⟨retainTo m, m.bodies.drop (retainTo m).toNat, _⟩ : Core) = ⟨retainTo m, (m.bodies.drop m.floor.toNat).drop (retainTo m - m.floor).toNat, _⟩
      congr 1
      rw [List.drop_drop]
      congr 1
      omega
    · rfl
theorem log_ret {m : MQ} {lg : Bs} {s : Nat} (h : LogIs m lg s) (hr : Rels m) (hok : m.Ok) (hsm : m.bodies.length ≤ 400) : LogIs (retainM m) (logL (decide (0 < retainN m)) lg s 102 []) (logS (decide (0 < retainN m)) s 102 []) := by
  obtain ⟨hg, hc⟩ := ret_core hr hok hsm
  by_cases hp : 0 < retainN m
  · rw [decide_eq_true hp]
    have hmc : (retainM m).c = m.c := by unfold retainM; cases retainB m <;> rfl
    refine h.add hmc (by simp) (fun q hq => ⟨q.release m.c, ?_, by rw [hc]; exact hq.release m.c⟩) (by rw [hc]; exact cok_release h.ok) ?_
    · unfold replayC
      rw [if_neg (by decide), if_pos rfl, hq.gone, hg, decide_eq_true hp]
      rfl
    · have := phi_release h.ok (by rw [hg]; exact hp)
      rw [hc]
      simp only [List.length_nil]
      omega
  · rw [decide_eq_false hp]
    have : retainM m = m := by
      unfold retainN at hp
      unfold retainM
      cases hb : retainB m
      · rw [hb] at hp
        unfold retainB at hb
        simp at hb
        simp only [cond_false] at hp
        omega
      · rfl
    rw [this]
    exact h
theorem lsd_ret {m : MQ} (h : Lsd m) : Lsd (retainM m) := by
  unfold retainM
  cases retainB m
  · exact h
  · exact h

end Go.Proofs.YtockkceclkcgbaaGreatDoor

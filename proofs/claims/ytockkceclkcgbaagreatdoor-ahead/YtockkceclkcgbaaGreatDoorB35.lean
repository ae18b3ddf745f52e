/- The contracts of the program's Log, and of Open of an empty log. -/
import Derived.Test.YtockkceclkcgbaaGreatDoorB34
import Derived.Test.YtockkceclkcgbaaGreatDoorB25
namespace Go.Proofs.YtockkceclkcgbaaGreatDoor
open Go.RowKit Go.Maps
variable {vL vS : Value} {lg : Bs}

attribute [local go_sem] over_cell

set_option maxHeartbeats 1000000 in
theorem xlog_any (i b : Nat) (m : MQ) (w : World) (T : Nat → Tag) (h : XM w T i b m vL vS lg) : Calls Tryz.prog 26 #[.pointer (some ⟨b, 0, none⟩)] w fun e w' => e = .returned (.string (mkB lg)) ∧ w' = w := by
  obtain ⟨a6, a7, hB, hL, _⟩ := h.log
  have lb := hB.lt
  have c8 := hB.cell (j := 8) rfl
  simp only [List.getElem_toArray, List.getElem_cons_succ, List.getElem_cons_zero] at c8
  have hconv := run_bytes_text hL
  obtain ⟨ao, cap, rfl⟩ := row_form hL
  go_enter Tryz.func26, Tryz.ntmps26
  go_wp2
  go_ret
  exact ⟨rfl, rfl⟩

/-- a queue as Open makes it, ahead of its log -/
def freshQ (c : Conf) (mb : Nat) : Array Value := #[.int .i64 c.l, .int .i64 c.d, .int .i64 c.s, .int .i64 c.k, .int .i64 0, .int .i64 0, .slice none 0 0, .map (some mb), .slice none 0 0, .int .u32 (seedS c)]

set_option maxRecDepth 100000 in
set_option maxHeartbeats 2000000 in
/-- Open, over what restore makes of the new queue -/
theorem open_any (c : Conf) (t : ByteArray) (i : Nat) (w : World) (T : Nat → Tag) (P : World → (Nat → Tag) → Nat → Prop) (F : Prop)
    (hres : ∀ (b mb : Nat) (w1 : World) (T1 : Nat → Tag), goodC c = true → Step (XT i) w T w1 T1 → Blk w1 T1 (.q i 0 0) b (freshQ c mb) 105 → NM w1 T1 (.q i 2 0) mb [] (fun _ => 0) →
      Calls Tryz.prog 64 #[.pointer (some ⟨b, 0, none⟩), .string t] w1 fun e w' => ∃ T', Step (XT i) w1 T1 w' T' ∧ ((e = .returned .nilIface ∧ P w' T' b) ∨ (F ∧ ∃ a, e = .returned (.iface 257 (.pointer (some a)))))) :
    Calls Tryz.prog 25 #[.agg c.cells, .string t] w fun e w' => (goodC c = false ∧ e = .returned (.tuple #[.pointer none, .int .i64 1]) ∧ Below w.heap.size w w') ∨
      (goodC c = true ∧ ∃ T', Step (XT i) w T w' T' ∧ ((∃ b, e = .returned (.tuple #[.pointer (some ⟨b, 0, none⟩), .int .i64 0]) ∧ P w' T' b) ∨ (F ∧ e = .returned (.tuple #[.pointer none, .int .i64 2])))) := by
  have hmm := @run_makeMap Tryz.prog
  go_enter Tryz.func25, Tryz.ntmps25
  go_wp2_with fail
  refine (isConfig_any c _).mono ?_
  rintro e w1 ⟨rfl, hb1⟩
  have q1 : ∀ j, w1.cell? ⟨w.heap.size, j, none⟩ = _ := fun j => hb1.cell (p := ⟨w.heap.size, j, none⟩) (by simp)
  have hz1 := hb1.size
  have f1 : Below w.heap.size w w1 := ((Below.refl _ _).alloc (Nat.le_refl _) _).trans (hb1.mono (by simp))
  cases h1 : goodC c
  · go_wp2
    go_ret2
    exact .inl ⟨h1, rfl, f1⟩
  · have hbk := (blk_new w T c.cells 23 .free).step (step_below (fun _ => False) (retag T w.heap.size .free) hb1) (fun h => h)
    have hlt := hbk.lt
    have hc0 := hbk.cell (j := 0) rfl
    have hc1 := hbk.cell (j := 1) rfl
    have hc2 := hbk.cell (j := 2) rfl
    have hc3 := hbk.cell (j := 3) rfl
    simp only [List.getElem_toArray, List.getElem_cons_succ, List.getElem_cons_zero] at hc0 hc1 hc2 hc3
    have hnj := fun (w2 : World) (T2 : Nat → Tag) => newJournal_any i c h1 w2 T2
    unfold Conf.cells at hnj
    clear q1 hb1
    go_wp2_with fail
    obtain ⟨Tr, hTr⟩ : ∃ Tr, Tr = retag (retag T w.heap.size .free) w1.heap.size (.q i 2 0) := ⟨_, rfl⟩
    have htg : ∀ j, j < w.heap.size → Tr j = T j := fun j hj => by rw [hTr, retag_other _ _ _ (by omega), retag_other _ _ _ (by omega)]
    have hbk2 : Blk w1 Tr .free w.heap.size c.cells 23 := ⟨by rw [hTr, retag_other _ _ _ (by omega)]; exact hbk.1, hbk.2⟩
    have hdr := step_below (fun _ => False) Tr (Below.refl w1.heap.size w1).drew
    have hbd := hbk2.step hdr (fun h => h)
    have hmp := step_alloc w1.drew Tr (.map #[] 0) (fun _ => False)
    have hba := hbd.step hmp (fun h => h)
    have m1 := World.ownsMap_made (H := Unit) w1.drew Tryz.prog 9 ptrElem
    have n1 : NM (w1.drew.alloc (.map #[] 0)) Tr (.q i 2 0) w1.heap.size [] (fun _ => 0) := ⟨by rw [hTr]; exact retag_same _ _ _, 0, _, m1, rfl, fun s => rfl, fun s k h => by cases h⟩
    have f1s : Step (XT i) w T w1 Tr := ⟨f1.os, f1.tape, f1.output, f1.size, htg, fun j hj _ => f1.block j hj⟩
    -- the map made ahead of the journal, and behind it
    have hA : ∀ (w3 : World) (T3 : Nat → Tag), Step (fun t => t = .q i 1 2) (w1.drew.alloc (.map #[] 0)) Tr w3 T3 → Calls Tryz.prog 64 #[.pointer (some ⟨w3.heap.size, 0, none⟩), .string t] (w3.alloc (.cells (freshQ c w1.heap.size) 105)) fun e w' => ∃ T', Step (XT i) w T w' T' ∧ ((e = .returned .nilIface ∧ P w' T' w3.heap.size) ∨ (F ∧ ∃ a, e = .returned (.iface 257 (.pointer (some a))))) := fun w3 T3 s3 => by
      have a2 := step_new w3 T3 (.cells (freshQ c w1.heap.size) 105) (.q i 0 0) (fun _ => False)
      have st : Step (XT i) w T (w3.alloc (.cells (freshQ c w1.heap.size) 105)) (retag T3 w3.heap.size (.q i 0 0)) := (f1s.trans ((hdr.trans hmp).mono (fun _ h => h.elim))).trans ((s3.mono (fun t h => by subst h; exact ⟨rfl, rfl⟩)).trans (a2.mono (fun _ h => h.elim)))
      refine (hres w3.heap.size w1.heap.size _ _ h1 st (blk_new w3 T3 (freshQ c w1.heap.size) 105 (.q i 0 0)) ((n1.step s3 (by simp)).step a2 (fun h => h))).mono ?_
      rintro e w5 ⟨T5, s5, h5⟩
      exact ⟨T5, st.trans s5, h5⟩
    have hB : ∀ (w3 : World) (T3 : Nat → Tag), Step (fun t => t = .q i 1 2) w1.drew Tr w3 T3 → Calls Tryz.prog 64 #[.pointer (some ⟨w3.heap.size + 1, 0, none⟩), .string t] ((w3.alloc (.map #[] 0)).alloc (.cells (freshQ c w3.heap.size) 105)) fun e w' => ∃ T', Step (XT i) w T w' T' ∧ ((e = .returned .nilIface ∧ P w' T' (w3.heap.size + 1)) ∨ (F ∧ ∃ a, e = .returned (.iface 257 (.pointer (some a))))) := fun w3 T3 s3 => by
      have a1 := step_new w3 T3 (.map #[] 0) (.q i 2 0) (fun _ => False)
      have m3 := World.ownsMap_made (H := Unit) w3 Tryz.prog 9 ptrElem
      have n3 : NM (w3.alloc (.map #[] 0)) (retag T3 w3.heap.size (.q i 2 0)) (.q i 2 0) w3.heap.size [] (fun _ => 0) := ⟨retag_same _ _ _, 0, _, m3, rfl, fun s => rfl, fun s k h => by cases h⟩
      have z3 : (w3.alloc (.map #[] 0)).heap.size = w3.heap.size + 1 := by simp
      have a2 := step_new (w3.alloc (.map #[] 0)) (retag T3 w3.heap.size (.q i 2 0)) (.cells (freshQ c w3.heap.size) 105) (.q i 0 0) (fun _ => False)
      have b2 := blk_new (w3.alloc (.map #[] 0)) (retag T3 w3.heap.size (.q i 2 0)) (freshQ c w3.heap.size) 105 (.q i 0 0)
      rw [z3] at a2 b2
      have st : Step (XT i) w T ((w3.alloc (.map #[] 0)).alloc (.cells (freshQ c w3.heap.size) 105)) _ := (f1s.trans (hdr.mono (fun _ h => h.elim))).trans ((s3.mono (fun t h => by subst h; exact ⟨rfl, rfl⟩)).trans ((a1.trans a2).mono (fun _ h => h.elim)))
      refine (hres (w3.heap.size + 1) w3.heap.size _ _ h1 st b2 (n3.step a2 (fun h => h))).mono ?_
      rintro e w5 ⟨T5, s5, h5⟩
      exact ⟨T5, st.trans s5, h5⟩
    unfold freshQ at hA hB
    go_region_law (go_simp; go_at_call 63; refine (hnj _ Tr).mono ?_; rintro e w3 ⟨rfl, T3, s3⟩; have hk3 : Blk w3 T3 .free w.heap.size c.cells 23 := (by first | exact hbd.step s3 (by simp) | exact hba.step s3 (by simp)); have k0 := hk3.cell (j := 0) rfl; have k1 := hk3.cell (j := 1) rfl; have k2 := hk3.cell (j := 2) rfl; have k3 := hk3.cell (j := 3) rfl; have kl := hk3.lt; simp only [List.getElem_toArray, List.getElem_cons_succ, List.getElem_cons_zero] at k0 k1 k2 k3)
    all_goals
      go_wp2_with fail
      first
        | refine (hA w3 T3 s3).mono ?_
        | refine (hB w3 T3 s3).mono ?_
      rintro e w5 ⟨T5, s5, (⟨rfl, hP⟩ | ⟨hF, a, rfl⟩)⟩
      · go_wp2
        go_ret2
        exact .inr ⟨h1, T5, s5, .inl ⟨_, rfl, hP⟩⟩
      · go_wp2
        go_ret2
        exact .inr ⟨h1, T5, s5, .inr ⟨hF, rfl⟩⟩

end Go.Proofs.YtockkceclkcgbaaGreatDoor

/- Open of an empty log: what it makes. -/
namespace Go.Proofs.YtockkceclkcgbaaGreatDoor
open Go.RowKit Go.Maps

attribute [local go_sem] over_cell

set_option maxRecDepth 100000 in
set_option maxHeartbeats 2000000 in
theorem restore_empty (c : Conf) (i b mb : Nat) (w : World) (T : Nat → Tag) (hB : Blk w T (.q i 0 0) b (freshQ c mb) 105) (hN : NM w T (.q i 2 0) mb [] (fun _ => 0)) :
    Calls Tryz.prog 64 #[.pointer (some ⟨b, 0, none⟩), .string ⟨#[]⟩] w fun e w' => e = .returned .nilIface ∧ Below w.heap.size w w' := by
  have lb := hB.lt
  have c9 := hB.cell (j := 9) (v := .int .u32 (seedS c)) rfl
  have s1 := step_new w T (.cells #[.string ⟨#[]⟩, .bool false, .int .u32 (seedS c)] 163) .free (fun _ => False)
  have hB1 := hB.step s1 (fun h => h)
  have hN1 := hN.step s1 (fun h => h)
  have hO := blk_new w T #[.string ⟨#[]⟩, .bool false, .int .u32 (seedS c)] 163 .free
  have lo := hO.lt
  have o0 := hO.cell (j := 0) rfl
  have b1 := hB1.lt
  have c7 := hB1.cell (j := 7) (v := .map (some mb)) rfl
  simp only [List.getElem_toArray, List.getElem_cons_zero] at o0
  have f1 : Below w.heap.size w (w.alloc (.cells #[.string ⟨#[]⟩, .bool false, .int .u32 (seedS c)] 163)) := (Below.refl _ _).alloc (Nat.le_refl _) _
  obtain ⟨hTm, nn, D, hown, hsz, hhas, hat⟩ := hN1
  go_enter Tryz.func64, Tryz.ntmps64
  go_wp2_with fail
  refine wp_loop_rounds 1 ?_
  rw [rounds_succ]
  go_wp2_with (first
    | (at_range; refine wpList_range_own _ rfl _ 99 rfl 9 129 law9 Tryz.underlying99 _ mb nn _ rfl hown ?_; intro w3 hrg0 hg0 hs0)
    | go_in)
  refine wp_loop_rounds 1 ?_
  rw [rounds_succ]
  go_wp2_with (first
    | (at_next; refine wpList_next_groups _ rfl _ rfl mb _ nn _ _ _ [] (fun _ => 0) hhas hat rfl hrg0 ?_ ?_)
    | go_in)
  intros
  go_wp2
  go_ret
  exact ⟨rfl, f1.grown hg0 (by simp) (fun k hk => by cases hk)⟩

end Go.Proofs.YtockkceclkcgbaaGreatDoor

/- The contract of the reader's numbers. -/
namespace Go.Proofs.YtockkceclkcgbaaGreatDoor
open Go.RowKit

def lenV : Value → Nat
  | .slice _ n _ => n
  | _ => 0
theorem nums_short (r : Rd) (h : r.short = true) : r.nums = ([], r) := by simp [Rd.nums, h]
theorem nums_end (r : Rd) (h : r.rest = []) : r.nums = ([], r) := by
  unfold Rd.nums
  split
  · rfl
  · rename_i hs
    cases r
    simp at h hs
    subst h hs
    rfl
theorem nums_next (r : Rd) (h : r.rest ≠ []) (hs : r.short = false) : r.nums = (((r.num 2).1 : Int) :: (r.num 2).2.nums.1, (r.num 2).2.nums.2) := by
  obtain ⟨rest, sh⟩ := r
  simp at h hs
  subst hs
  match rest, h with
  | [x], _ => simp [Rd.nums, pairsOf, Rd.num, Rd.take, decN]
  | a :: b :: l, _ =>
    have hn : ¬ l.length + 1 + 1 < 2 := by omega
    simp [Rd.nums, pairsOf, Rd.num, Rd.take, hn]
theorem nums_bound (r : Rd) (hs : r.short = false) : r.nums.1.length ≤ r.rest.length := by
  obtain ⟨rest, sh⟩ := r
  simp at hs
  subst hs
  have : ∀ l : Bs, (pairsOf l).1.length ≤ l.length := by
    intro l
    induction l using pairsOf.induct with
    | case1 => simp [pairsOf]
    | case2 => simp [pairsOf]
    | case3 a b r ih => simp [pairsOf]; omega
  simpa [Rd.nums] using this rest

set_option maxRecDepth 100000 in
set_option maxHeartbeats 2000000 in
theorem numbers_any (t tg : Tag) (b : Nat) (e : TypeId) (cs : Array Value) (r : Rd) (w : World) (T : Nat → Tag) (h : RdB w T t b e cs r) (hne : t ≠ tg) (hl : r.nums.1.length ≤ 100000000000) :
    Calls Tryz.prog 130 #[.pointer (some ⟨b, 0, none⟩)] w fun e' w' => ∃ v T', e' = .returned v ∧ Step (fun s => s = t ∨ s = tg) w T w' T' ∧ RdB w' T' t b e cs r.nums.2 ∧ Row w' T' tg 3 1 v r.nums.1.length (r.nums.1.map intV) := by
  obtain ⟨i0, hi, hinfo⟩ := Option.map_eq_some_iff.1 infoIntJ
  obtain ⟨hz0, hz1, hz2⟩ : i0.zero = some (.int .i64 0) ∧ i0.size = 1 ∧ i0.bytes = 8 := by simpa [Prod.ext_iff] using hinfo
  clear hinfo
  go_enter Tryz.func130, Tryz.ntmps130
  go_wp2_with fail
  go_loopw [3] (fun u3 wr => ∃ (pre : List Int) (r' : Rd) (T' : Nat → Tag), r.nums = (pre ++ r'.nums.1, r'.nums.2) ∧ Step (fun s => s = t ∨ s = tg) w T wr T' ∧ RdB wr T' t b e cs r' ∧ Row wr T' tg 3 1 u3 pre.length (pre.map intV)) (fun u3 _ => r.nums.1.length - lenV u3)
  case atStart => exact ⟨[], r, T, by simp, Step.refl _ _ _, h, row_nil _ _ _ _ _⟩
  case round =>
    obtain ⟨pre, r', T', hnums, hs, hr, hR⟩ := hrel
    obtain ⟨ao, cap, rfl⟩ := row_form hR
    have lb := hr.1.lt
    have c0 := hr.1.cell (rd_cell0 hr.2.1)
    have c1 := hr.1.cell (rd_cell1 hr.2.1)
    have hem := mkB_empty r'.rest
    by_cases h0 : r'.rest = []
    · have hnn := nums_end r' h0
      have hem3 : (mkB r'.rest).toList.isEmpty = true := by rw [hem]; simp [h0]
      rw [hnn, List.append_nil] at hnums
      clear hem hnn h0
      go_wp2
      go_ret
      exact ⟨_, rfl, T', hs, hr, hR⟩
    have hem2 : ¬ (mkB r'.rest).toList = [] := fun e => by rw [e] at hem; simp [h0] at hem
    cases hsh : r'.short
    · have hnx := nums_next r' h0 hsh
      have hlen : pre.length + 1 ≤ r.nums.1.length := by rw [hnums, hnx]; simp
      have hnum := num_any t b e cs r' wr T' hr
      rw [hsh] at c1
      have hem3 : (mkB r'.rest).toList.isEmpty = false := by rw [hem]; simp [h0]
      clear hem hem2
      go_wp2_with fail
      refine hnum.mono ?_
      rintro e1 w1 ⟨rfl, s1, h1⟩
      have hR1 := hR.step s1 (fun e => hne e.symm)
      have sa := step_alloc w1 T' (.cells #[.int .i64 ((r'.num 2).1 : Int)] 3) (fun _ => False)
      go_wp2_with (first
        | (at_builtin; refine wpList_append_row rfl (.tmp 16) (.tmp 19) 50 rfl 3 i0 _ 1 8 Tryz.underlying50 hi hz0 hz1 hz2 rfl (by decide) _ pre.length (pre.map intV) rfl (hR1.step sa (fun h => h)) ⟨w1.heap.size, 0, none⟩ 1 1 [.int .i64 ((r'.num 2).1 : Int)] rfl rfl (cells_new w1 [.int .i64 ((r'.num 2).1 : Int)] 3) (by simp [Value.oneCell']) (by decide) (by unfold maxLen; omega) (by omega) ?_; intro g2 cap2 w2 T2 hR2 s2)
        | go_in)
      refine ⟨⟨pre ++ [((r'.num 2).1 : Int)], (r'.num 2).2, T2, ?_, ?_, (h1.step sa (fun h => h)).step s2 hne, ?_⟩, ?_⟩
      · rw [hnums, hnx]; simp
      · exact (hs.trans (s1.mono (fun _ h => .inl h))).trans ((sa.mono (fun _ h => h.elim)).trans (s2.mono (fun _ h => .inr h)))
      · simpa [intV] using hR2
      · simp only [lenV]; omega
    · have hnn := nums_short r' hsh
      rw [hnn, List.append_nil] at hnums
      rw [hsh] at c1
      go_wp2
      go_ret
      exact ⟨_, rfl, T', hs, hr, hR⟩

end Go.Proofs.YtockkceclkcgbaaGreatDoor

/- The document's queue without its times and leases; what a call makes of it is what the record that it writes makes. -/
namespace Go.Proofs.YtockkceclkcgbaaGreatDoor
open Go.RowKit

def coreG (m : MQ) (g : MG) : CG := ⟨g.start, doneTo g.items g.items.length, g.dead.map (deadOf m g), fun n => triesOf (itemAt g.items n)⟩
def coreM (m : MQ) : Core := ⟨m.floor, m.bodies.drop m.floor.toNat, m.groups.map (fun g => (g.name, coreG m g))⟩
theorem rel_core {m : MQ} {g : MG} {p : PG} (hr : RelG m g p) (hd : ∀ x ∈ g.items, 0 ≤ x.done) (hl : g.items.length ≤ 1099511627776) : p.core = coreG m g := by
  have h1 : p.done = doneTo g.items g.items.length := set_is_done hd hl hr.set hr.done
  have h2 : p.tr = fun n => triesOf (itemAt g.items n) := funext hr.tr
  unfold PG.core coreG
  rw [hr.start, h1, hr.dead, h2]
/-- what is known of every group -/
def Rels (m : MQ) : Prop := ∀ g ∈ m.groups, InvG m g ∧ ∃ p, RelG m g p
theorem XM.rels {w : World} {T : Nat → Tag} {i b : Nat} {m : MQ} {vL vS : Value} {lg : Bs} (h : XM w T i b m vL vS lg) : Rels m := fun g hg => by
  obtain ⟨k, hk⟩ := List.getElem?_of_mem hg
  obtain ⟨_, _, _, ps, _, _, _, hG, _⟩ := h.mem
  exact ⟨h.inv g hg, ps k, (hG k g hk).2⟩
theorem coreM_names (m : MQ) : (coreM m).names = m.names := by simp [coreM, Core.names, MQ.names, Function.comp_def]
theorem coreM_stop {m : MQ} (h : m.Ok) : (coreM m).stop = m.bodies.length := by
  have := h.fl
  simp only [coreM, Core.stop, List.length_drop]
  omega
theorem coreM_find {m : MQ} {s : ByteArray} {k : Nat} {g : MG} (hn : m.names.Nodup) (ha : m.at s = some k) (hg : m.groups[k]? = some g) : (coreM m).find s = some (coreG m g) := by
  have hs : g.name = s := by
    obtain ⟨g', h1, h2⟩ := at_group ha
    rw [hg] at h1
    cases h1
    exact h2
  refine (find_mem (by rw [coreM_names]; exact hn)).2 ?_
  rw [← hs]
  exact List.mem_map.2 ⟨g, List.mem_of_getElem? hg, rfl⟩
/-- a call that touches times and leases alone -/
theorem coreM_same {m m' : MQ} (hf : m'.floor = m.floor) (hb : m'.bodies = m.bodies) (hl : m'.groups.length = m.groups.length) (hg : ∀ (k : Nat) g g', m.groups[k]? = some g → m'.groups[k]? = some g' → g'.name = g.name ∧ coreG m' g' = coreG m g) : coreM m' = coreM m := by
  unfold coreM
  rw [hf, hb]
  congr 1
  apply List.ext_getElem?
  intro k
  simp only [List.getElem?_map]
  rcases Nat.lt_or_ge k m.groups.length with hk | hk
  · obtain ⟨g, h1⟩ : ∃ g, m.groups[k]? = some g := ⟨_, List.getElem?_eq_getElem hk⟩
    obtain ⟨g', h2⟩ : ∃ g, m'.groups[k]? = some g := ⟨_, List.getElem?_eq_getElem (by omega)⟩
    obtain ⟨e1, e2⟩ := hg k g g' h1 h2
    rw [h1, h2]
    simp only [Option.map_some, e1, e2]
  · rw [List.getElem?_eq_none hk, List.getElem?_eq_none (by omega)]
    rfl
/-- one group went on -/
theorem coreM_put {m m' : MQ} {s : ByteArray} {k : Nat} {g' : CG} (hn : m.names.Nodup) (ha : m.at s = some k) (hf : m'.floor = m.floor) (hb : m'.bodies = m.bodies) (hl : m'.groups.length = m.groups.length)
    (hk : ∀ g1, m'.groups[k]? = some g1 → g1.name = s ∧ coreG m' g1 = g') (hg : ∀ (j : Nat) g g1, j ≠ k → m.groups[j]? = some g → m'.groups[j]? = some g1 → g1.name = g.name ∧ coreG m' g1 = coreG m g) : coreM m' = (coreM m).put s g' := by
  unfold Core.put
  show coreM m' = ⟨m.floor, m.bodies.drop m.floor.toNat, _⟩
  unfold coreM
  rw [hf, hb]
  congr 1
  apply List.ext_getElem?
  intro j
  simp only [List.getElem?_map]
  rcases Nat.lt_or_ge j m.groups.length with hj | hj
  · obtain ⟨g, h1⟩ : ∃ g, m.groups[j]? = some g := ⟨_, List.getElem?_eq_getElem hj⟩
    obtain ⟨g1, h2⟩ : ∃ g, m'.groups[j]? = some g := ⟨_, List.getElem?_eq_getElem (by omega)⟩
    have hname : g.name = s ↔ j = k := by
      have h3 : m.names[j]? = some g.name := by simp [MQ.names, h1]
      have h4 : m.names[k]? = some s := idx_some ha
      constructor
      · intro e
        rw [e] at h3
        exact (List.getElem?_inj (List.getElem?_eq_some_iff.1 h3).1 hn).1 (h3.trans h4.symm)
      · intro e
        subst e
        rw [h3] at h4
        exact Option.some.inj h4
    rw [h1, h2]
    simp only [Option.map_some]
    by_cases e : j = k
    · subst e
      obtain ⟨e1, e2⟩ := hk g1 h2
      simp only [e1, e2, hname.2 rfl, if_true]
    · obtain ⟨e1, e2⟩ := hg j g g1 e h1 h2
      have : ¬ g.name = s := fun x => e (hname.1 x)
      simp only [e1, e2, this, if_false]
  · rw [List.getElem?_eq_none hj, List.getElem?_eq_none (by omega)]
    rfl

/-! what is read of a record with a name -/
theorem enc2 (n : Nat) : encN 2 n = [UInt8.ofNat (n / 256), UInt8.ofNat n] := by simp [encN]
theorem pairs_nums : ∀ ns : List Int, (∀ n ∈ ns, 0 ≤ n ∧ n < 65536) → pairsOf (numsB ns) = (ns, [], false)
  | [], _ => rfl
  | n :: r, h => by
    have hn := h n (by simp)
    have ih := pairs_nums r (fun x hx => h x (by simp [hx]))
    have e : numsB (n :: r) = UInt8.ofNat (n.toNat / 256) :: UInt8.ofNat n.toNat :: numsB r := by
      simp [numsB, enc2]
    have hd := decN_enc (w := 2) (n := n.toNat) (by omega)
    rw [enc2] at hd
    rw [e, pairsOf, ih, hd]
    simp only [Prod.mk.injEq, List.cons.injEq, and_true]
    omega
theorem read_named (s : ByteArray) (ns : List Int) (hs : s.size ≤ 255) (hns : ∀ n ∈ ns, 0 ≤ n ∧ n < 65536) : (Rd.mk (namedB s ns) false).text = (s.data.toList, ⟨numsB ns, false⟩) ∧ (Rd.mk (numsB ns) false).nums = (ns, ⟨[], false⟩) := by
  refine ⟨text_enc s (numsB ns) (by omega), ?_⟩
  unfold Rd.nums
  rw [if_neg (by simp), pairs_nums ns hns]
theorem replay_named {c : Conf} {q : Core} {new : Bool} {k : UInt8} (s : ByteArray) (ns : List Int) (hk : k = 114 ∨ k = 103 ∨ k = 97) (hs : s.size ≤ 255) (hns : ∀ n ∈ ns, 0 ≤ n ∧ n < 65536) : replayC c q new k (namedB s ns) = replayN c q k s ns := by
  obtain ⟨h1, h2⟩ := read_named s ns hs hns
  have e1 : k ≠ 101 := by rcases hk with rfl | rfl | rfl <;> decide
  have e2 : k ≠ 102 := by rcases hk with rfl | rfl | rfl <;> decide
  have e3 : k ≠ 99 := by rcases hk with rfl | rfl | rfl <;> decide
  unfold replayC
  rw [if_neg e1, if_neg e2, if_neg e3]
  simp only [h1, h2, mkB_data]
  simp [Rd.ended]

/-- The log lg, of sum s, is that of the queue m. -/
structure LogIs (m : MQ) (lg : Bs) (s : Nat) : Prop where
  lt : s < 4294967296
  ok : COk m.c (coreM m)
  short : (lg.length : Int) ≤ 130 * phi (coreM m) + 450000
  told : ∃ q, Told m.c lg q s ∧ Same q (coreM m)
theorem LogIs.len {m : MQ} {lg : Bs} {s : Nat} (h : LogIs m lg s) : lg.length ≤ 4000000 := by
  have h1 := phi_bound h.ok
  have h2 := h.short
  omega
theorem LogIs.same {m m' : MQ} {lg : Bs} {s : Nat} (h : LogIs m lg s) (hc : m'.c = m.c) (hm : coreM m' = coreM m) : LogIs m' lg s := by
  obtain ⟨h1, h2, h3, h4⟩ := h
  exact ⟨h1, by rw [hc, hm]; exact h2, by rw [hm]; exact h3, by rw [hc, hm]; exact h4⟩
theorem LogIs.add {m m' : MQ} {lg : Bs} {s : Nat} (h : LogIs m lg s) (hc : m'.c = m.c) {k : UInt8} {d : Bs} (hd : d.length < 256 ^ 3) (hr : ∀ q, Same q (coreM m) → ∃ q', replayC m.c q (decide (lg = [])) k d = some q' ∧ Same q' (coreM m')) (hok : COk m.c (coreM m'))
    (hp : (12 + d.length : Nat) ≤ 130 * (phi (coreM m') - phi (coreM m))) : LogIs m' (lg ++ recB s k d) (recS s k d) := by
  obtain ⟨h1, h2, h3, q, hT, hS⟩ := h
  obtain ⟨q', hq, hS'⟩ := hr q hS
  refine ⟨by have := recS_lt s k d; simpa using this, by rw [hc]; exact hok, ?_, q', by rw [hc]; exact hT.add hd hq, hS'⟩
  rw [List.length_append, recB_length]
  omega

end Go.Proofs.YtockkceclkcgbaaGreatDoor

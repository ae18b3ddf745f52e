/- The contract of a run's group. -/
import Derived.Test.YtockkceclkcgbaaGreatDoorB14
import Derived.Deep.RegionHeld3
import Derived.Test.YtockkceclkcgbaaGreatDoorB01
import Derived.StillTail
import Derived.Test.YtockkceclkcgbaaGreatDoorB13
namespace Go.Proofs.YtockkceclkcgbaaGreatDoor
open Go.RowKit

set_option maxRecDepth 100000 in
set_option maxHeartbeats 1000000 in
theorem name_exact (n : Nat) (hn : n < 6) (w : World) : Calls Tryz.prog 35 #[.int .i64 n] w fun e w' => e = .returned (.string (nameB n)) ∧ w' = w.alloc (.cells #[.int .u8 (97 + n)] 5) := by
  have hcv := run_str1 w
  have h : n = 0 ∨ n = 1 ∨ n = 2 ∨ n = 3 ∨ n = 4 ∨ n = 5 := by omega
  rcases h with rfl | rfl | rfl | rfl | rfl | rfl
  all_goals
    go_enter Tryz.func35, Tryz.ntmps35
    go_wp2
    go_ret
    exact ⟨rfl, rfl⟩

theorem infoMember : (Tryz.prog.info? 63).map (fun i => (i.zero, i.size, i.bytes)) = some (some (.agg #[.string ⟨#[]⟩, .int .i64 0, .slice none 0 0, .slice none 0 0]), 4, 72) := by kernel_rfl
def zerosS (n : Nat) : List Value := seenVals (List.replicate n It.zero)

theorem zerosS_length (n : Nat) : (zerosS n).length = n * 4 := by simp [zerosS, seenVals_length]
theorem zerosS_at (n : Nat) (k r : Nat) (hk : k < n) (hr : r < 4) : (zerosS n)[k * 4 + r]? = some ((#[.int .i64 0, .bool false, .int .i64 0, .int .i64 0] : Array Value)[r]!) := by
  have hx : (List.replicate n It.zero)[k]? = some It.zero := by simp [hk]
  obtain ⟨t0, t1, t2, t3⟩ := seenVals_at (List.replicate n It.zero) k It.zero hx
  match r, hr with
  | 0, _ => exact t0
  | 1, _ => exact t1
  | 2, _ => exact t2
  | 3, _ => exact t3
theorem madeS (n : Nat) : (madeCells (Value.agg #[.int .i64 0, .bool false, .int .i64 0, .int .i64 0]).cells (n * 4)).toList = zerosS n := by
  apply List.ext_getElem?
  intro j
  by_cases hj : j < n * 4
  · have e : j = j / 4 * 4 + j % 4 := by omega
    have h2 := zerosS_at n (j / 4) (j % 4) (by omega) (by omega)
    rw [← e] at h2
    rw [h2]
    simp [madeCells, hj, Value.cells]
  · rw [List.getElem?_eq_none (by simp [size_madeCells]; omega), List.getElem?_eq_none (by rw [zerosS_length]; omega)]

theorem memB_name {m : MQ} (hN : Named m) (hK : m.groups.length < 6) : memB (nameB m.groups.length) m.names = false := by
  rw [memB_not]
  intro h
  simp only [MQ.names, List.mem_map] at h
  obtain ⟨g, hg, e⟩ := h
  obtain ⟨j, hj⟩ := List.getElem?_of_mem hg
  have hlt := (List.getElem?_eq_some_iff.1 hj).1
  rw [hN j g hj] at e
  have := nameB_inj (by omega) (by omega) e
  omega

theorem heap3_0 (w : World) (a b c : Obj) : (((w.alloc a).alloc b).alloc c).drew.heap[w.heap.size]? = some a := by
  show (((w.heap.push a).push b).push c)[w.heap.size]? = some a
  rw [Array.getElem?_push, if_neg (by simp only [Array.size_push]; omega), Array.getElem?_push, if_neg (by simp only [Array.size_push]; omega), Array.getElem?_push, if_pos rfl]
theorem heap3_1 (w : World) (a b c : Obj) : (((w.alloc a).alloc b).alloc c).drew.heap[w.heap.size + 1]? = some b := by
  show (((w.heap.push a).push b).push c)[w.heap.size + 1]? = some b
  rw [Array.getElem?_push, if_neg (by simp only [Array.size_push]; omega), Array.getElem?_push, if_pos (by simp only [Array.size_push])]
theorem heap3_2 (w : World) (a b c : Obj) : (((w.alloc a).alloc b).alloc c).drew.heap[w.heap.size + 1 + 1]? = some c := by
  show (((w.heap.push a).push b).push c)[w.heap.size + 1 + 1]? = some c
  rw [Array.getElem?_push, if_pos (by simp only [Array.size_push])]
theorem below3 (w : World) (a b c : Obj) : Below w.heap.size w (((w.alloc a).alloc b).alloc c).drew := ((((Below.refl _ _).alloc (Nat.le_refl _) _).alloc (by simp) _).alloc (by simp <;> omega) _).drew

/-- where a new group starts -/
def startOf (m : MQ) (fr : Int) : Int := m.floor + pickQ fr (m.bodies.length - m.floor + 1)

theorem rv_snoc {m : MQ} {L : Nat → List Nat} {nm : ByteArray} {st ch : Int} (hL : L m.groups.length = []) (_hf : m.Ok) :
    ({ m with groups := m.groups ++ [⟨nm, st, List.replicate m.bodies.length It.zero, []⟩], changes := ch } : MQ).rv L = { m.rv L with groups := (m.rv L).groups ++ [⟨nm, st, zerosS m.bodies.length, []⟩] } := by
  have e : (({ m with groups := m.groups ++ [⟨nm, st, List.replicate m.bodies.length It.zero, []⟩], changes := ch } : MQ).rv L).groups = (m.rv L).groups ++ [⟨nm, st, zerosS m.bodies.length, []⟩] := by
    apply List.ext_getElem?
    intro k
    unfold MQ.rv
    rw [rvU_groups]
    simp only [List.getElem?_append, rvU_len, rvU_groups]
    by_cases hk : k < m.groups.length
    · simp only [hk, if_true]
      unfold itemsOf
      simp only [List.getElem?_append, hk, if_true]
    · simp only [hk, if_false]
      by_cases e : k = m.groups.length
      · subst e
        simp [itemsOf, hL, zerosS]
      · rw [List.getElem?_eq_none (by simp; omega), List.getElem?_eq_none (by simp; omega)]
        rfl
  unfold MQ.rv MQ.rvU at e ⊢
  simp only at e
  simp only
  rw [e]

/-- a new group, its row laid and its cells appended -/
theorem rgrp_done {w5 : World} {T5 : Nat → Tag} {i b bx : Nat} {r : RV} {nm : ByteArray} {st : Int} {vB vG vS : Value} {vi vd : Nat → Value} {g2 cap2 n : Nat} (hn : r.bodies.length = n) (hsm : r.bodies.length ≤ 400) (hfew : r.groups.length < 6)
    (hB : Blk w5 T5 (.run i) b (runCells bx r vB vG) 57) (hR : Row w5 T5 (.rbod i) 9 1 vB r.bodies.length r.bodies) (hI : ∀ k g, r.groups[k]? = some g → MemAt w5 T5 i k g r.bodies.length (vi k) (vd k))
    (hS : Row w5 T5 (.rseen i r.groups.length) 67 4 vS n (zerosS n))
    (hG : Row w5 T5 (.rgrp i) 63 4 (.slice (some ⟨g2, 0, none⟩) (r.groups.length + 1) cap2) (r.groups.length + 1) (groupCells r.groups vi vd ++ [.string nm, .int .i64 st, vS, .slice none 0 0])) :
    RunM (w5.setCell ⟨b, 7, none⟩ (.slice (some ⟨g2, 0, none⟩) (r.groups.length + 1) cap2)) T5 i b bx { r with groups := r.groups ++ [⟨nm, st, zerosS n, []⟩] } ∧
    Step (fun t => t = .run i) w5 T5 (w5.setCell ⟨b, 7, none⟩ (.slice (some ⟨g2, 0, none⟩) (r.groups.length + 1) cap2)) T5 := by
  subst hn
  have hs : Step (fun t => t = .run i) w5 T5 (w5.setCell ⟨b, 7, none⟩ (.slice (some ⟨g2, 0, none⟩) (r.groups.length + 1) cap2)) T5 := step_setCell _ _ _ _ _ hB.1
  refine ⟨⟨hsm, by simp; omega, vB, .slice (some ⟨g2, 0, none⟩) (r.groups.length + 1) cap2, fun k => if k = r.groups.length then vS else vi k, fun k => if k = r.groups.length then .slice none 0 0 else vd k, hB.set 7 _, hR.step hs (by simp), ?_, fun k g hk => ?_⟩, hs⟩
  · have h6 := hG.step hs (by simp)
    rw [groupCells_snoc, groupCells_congr r.groups r.groups vi vd _ _ rfl (fun k hk => if_neg (by omega)) (fun k hk => if_neg (by omega))]
    simpa using h6
  · by_cases hkl : k < r.groups.length
    · rw [List.getElem?_append_left hkl] at hk
      have hne : ¬ k = r.groups.length := by omega
      simp only [if_neg hne]
      exact (hI k g hk).step hs (by simp) (by simp)
    · rw [List.getElem?_append_right (by omega)] at hk
      have hk0 : k = r.groups.length := by
        rcases Nat.lt_or_ge (k - r.groups.length) 1 with h | h
        · omega
        · rw [List.getElem?_eq_none (by simpa using h)] at hk; cases hk
      subst hk0
      simp at hk
      subst hk
      simp only [if_true]
      exact ⟨hS.step hs (by simp), row_nil _ _ _ _ _⟩

attribute [local go_sem] over_cell

set_option maxRecDepth 100000 in
set_option maxHeartbeats 8000000 in
theorem rgroup_any {X : World → (Nat → Tag) → Nat → Nat → MQ → Prop} {B Bm : Int} (hX : XC X Bm) (hle : B ≤ Bm) (i b bx : Nat) (m : MQ) (L : Nat → List Nat) (fr : Int) (w : World) (T : Nat → Tag) (hx : X w T i bx m) (hf : m.Fit B) (hr : RunM w T i b bx (m.rv L)) (hq : NiceQ m L) (hK : m.groups.length < 6) (h0 : -9223372036854775808 ≤ fr) (h1 : fr ≤ 9223372036854775807) :
    Calls Tryz.prog 32 #[.pointer (some ⟨b, 0, none⟩), .int .i64 fr] w fun e w' => e = .returned (.tuple #[]) ∧
      ∃ T', Step (UT i) w T w' T' ∧ X w' T' i bx (mgrpM m (nameB m.groups.length) (startOf m fr)) ∧ RunM w' T' i b bx ((mgrpM m (nameB m.groups.length) (startOf m fr)).rv L) ∧ (mgrpM m (nameB m.groups.length) (startOf m fr)).Fit B ∧ NiceQ (mgrpM m (nameB m.groups.length) (startOf m fr)) L := by
  have hfl := hf.ok.fl
  have hpk0 := pickQ_range fr (m.bodies.length - m.floor + 1) (by omega)
  obtain ⟨st, hst⟩ : ∃ st, Hid (startOf m fr = st) := ⟨_, hide rfl⟩
  obtain ⟨pk, hpk⟩ : ∃ pk, Hid (pickQ fr (m.bodies.length - m.floor + 1) = pk) := ⟨_, hide rfl⟩
  have hst1 : m.floor + pk = st := by rw [← hpk.out, ← hst.out]; rfl
  have hst2 : m.floor ≤ st ∧ st ≤ m.bodies.length := by rw [hpk.out] at hpk0; omega
  have hE : mgrpE m (nameB m.groups.length) st = 0 := by
    have e1 : btw ((nameB m.groups.length).size : Int) 1 16 = true := rfl
    have e2 : btw st m.floor m.bodies.length = true := by simp [btw, hst2.1, hst2.2]
    have e3 : ¬ 6 ≤ m.groups.length := by omega
    simp [mgrpE, e1, memB_name hq.named hK, e3, e2]
  have hfit := fit_grp hf (nameB m.groups.length) st
  have hnice := nice_grp hq hf hE hst2.1
  obtain ⟨g1, g2, vB, vG, vi, vd, hB, hR, hG, hI⟩ := id hr
  unfold MQ.rv at g1 g2 hB hR hG hI
  rw [rvU_blen] at g1 hR
  rw [rvU_len] at g2 hG
  obtain ⟨bo, bc, rfl⟩ := row_form hR
  obtain ⟨go, gc, rfl⟩ := row_form hG
  have lb := hB.lt
  have c5 := hB.cell (j := 5) rfl
  have c6 := hB.cell (j := 6) rfl
  have c7 := hB.cell (j := 7) rfl
  simp only [List.getElem_toArray, List.getElem_cons_succ, List.getElem_cons_zero] at c5 c6 c7
  replace c6 : w.cell? ⟨b, 6, none⟩ = some (.int .i64 m.floor) := c6
  obtain ⟨j0, hj, hj0, hj1, hj2⟩ := info_parts infoSeen
  obtain ⟨Z, hZ, hmk⟩ : ∃ Z : Array Value, Z.toList = zerosS m.bodies.length ∧ ∀ w : World, (Instr.makeSlice 61 (.int .i64 (m.bodies.length : Int)) (.int .i64 (m.bodies.length : Int))).run Tryz.prog w = .ok (.slice (some ⟨w.heap.size, 0, none⟩) m.bodies.length m.bodies.length) (w.alloc (.cells Z 67)) :=
    ⟨_, madeS _, fun w => by have := run_make (P := Tryz.prog) w 61 67 j0 _ Tryz.underlying61 hj hj0 .i64 .i64 m.bodies.length m.bodies.length (by omega) (Int.le_refl _) (by rw [hj2]; omega) (by omega); rw [hj1] at this; simpa using this⟩
  have hnm := fun w1 => name_exact m.groups.length hK w1
  have hpq := fun w1 => pickk_same fr (m.bodies.length - m.floor + 1) w1 h0 h1 (by omega) (by omega)
  rw [hpk.out] at hpq
  have hst' : IntKind.i64.wrap (m.floor + pk) = st := by rw [IntWalk.i64_left, IntWalk.wrap64_in _ ⟨by omega, by omega⟩]; exact hst1
  have hdf : IntKind.i64.wrap ((m.bodies.length : Int) - m.floor) = m.bodies.length - m.floor := by rw [IntWalk.i64_left, IntWalk.wrap64_in _ ⟨by omega, by omega⟩]
  have hdf1 : IntKind.i64.wrap ((m.bodies.length : Int) - m.floor + 1) = m.bodies.length - m.floor + 1 := by rw [IntWalk.i64_left, IntWalk.wrap64_in _ ⟨by omega, by omega⟩]
  have hS : ∀ w', Below w.heap.size w w' → w'.cell? ⟨b, 5, none⟩ = some (.slice bo m.bodies.length bc) ∧ w'.cell? ⟨b, 6, none⟩ = some (.int .i64 m.floor) ∧ w'.cell? ⟨b, 7, none⟩ = some (.slice go m.groups.length gc) := fun w' hb => ⟨(hb.cell (p := ⟨b, 5, none⟩) lb).trans c5, (hb.cell (p := ⟨b, 6, none⟩) lb).trans c6, (hb.cell (p := ⟨b, 7, none⟩) lb).trans c7⟩
  clear hst1 hpk hpk0
  go_enter Tryz.func32, Tryz.ntmps32
  go_wp2_with fail
  go_cut [4] from 12 to 42 (fun v w' => ∃ sb mb, v = .pointer (some ⟨mb, 0, none⟩) ∧ sb ≠ mb ∧ w.heap.size ≤ sb ∧ w.heap.size ≤ mb ∧ w'.heap[sb]? = some (.cells Z 67 (0, 0)) ∧ w'.heap[mb]? = some (.cells #[.string (nameB m.groups.length), .int .i64 st, .slice (some ⟨sb, 0, none⟩) m.bodies.length m.bodies.length, .slice none 0 0] 63 (0, 0)) ∧ Below w.heap.size w w')
  case first =>
    clear hB hR hG hI hx hr hf hq hfit hnice
    go_region_held3 (fun w' => w'.cell? ⟨b, 5, none⟩ = some (.slice bo m.bodies.length bc) ∧ w'.cell? ⟨b, 6, none⟩ = some (.int .i64 m.floor) ∧ w'.cell? ⟨b, 7, none⟩ = some (.slice go m.groups.length gc)) (first | (go_keep; done) | (refine hS _ ?_; exact below3 _ _ _ _)) (first | (go_at_call 35; refine (hnm _).mono ?_; rintro e w1 ⟨rfl, rfl⟩) | (go_at_call 33; refine (hpq _).mono ?_; rintro e w1 ⟨rfl, rfl⟩))
    all_goals
      go_wp2_with fail
      go_meet
      first
        | exact ⟨w.heap.size + 1, w.heap.size + 1 + 1, rfl, by omega, by omega, by omega, heap3_1 _ _ _ _, heap3_2 _ _ _ _, below3 _ _ _ _⟩
        | exact ⟨w.heap.size + 1 + 1, w.heap.size + 1, rfl, by omega, by omega, by omega, heap3_2 _ _ _ _, heap3_1 _ _ _ _, below3 _ _ _ _⟩
        | exact ⟨w.heap.size, w.heap.size + 1, rfl, by omega, by omega, by omega, heap3_0 _ _ _ _, heap3_1 _ _ _ _, below3 _ _ _ _⟩
        | exact ⟨w.heap.size, w.heap.size + 1 + 1, rfl, by omega, by omega, by omega, heap3_0 _ _ _ _, heap3_2 _ _ _ _, below3 _ _ _ _⟩
        | exact ⟨w.heap.size + 1, w.heap.size, rfl, by omega, by omega, by omega, heap3_1 _ _ _ _, heap3_0 _ _ _ _, below3 _ _ _ _⟩
        | exact ⟨w.heap.size + 1 + 1, w.heap.size, rfl, by omega, by omega, by omega, heap3_2 _ _ _ _, heap3_0 _ _ _ _, below3 _ _ _ _⟩
  case rest =>
    obtain ⟨sb, mb, rfl, hsm, hs0, hm0, hsb, hmb, hb1⟩ := hcut
    generalize wc = w1 at *
    have hsz : Z.size = m.bodies.length * 4 := by rw [← Array.length_toList, hZ]; simp [zerosS, seenVals_length]
    have s1 : Step (fun _ => False) w T w1 (retag (retag T sb (.rseen i m.groups.length)) mb .free) := step_kept (kept_of_below (fun _ => False) hb1) (fun _ _ h => h.elim) (fun k hk => by rw [retag_other _ _ _ (by omega), retag_other _ _ _ (by omega)])
    have hM : Blk w1 (retag (retag T sb (.rseen i m.groups.length)) mb .free) .free mb #[.string (nameB m.groups.length), .int .i64 st, .slice (some ⟨sb, 0, none⟩) m.bodies.length m.bodies.length, .slice none 0 0] 63 := ⟨retag_same _ _ _, hmb⟩
    have hSn : Row w1 (retag (retag T sb (.rseen i m.groups.length)) mb .free) (.rseen i m.groups.length) 67 4 (.slice (some ⟨sb, 0, none⟩) m.bodies.length m.bodies.length) m.bodies.length (zerosS m.bodies.length) := by
      refine ⟨⟨by simp [zerosS, seenVals_length], .inr ⟨sb, m.bodies.length, Z, rfl, Nat.zero_le _, hsb, Nat.le_refl _, by unfold maxLen; omega, hsz, ?_⟩⟩, fun g hg => ?_⟩
      · rw [← hsz, ← Array.length_toList, List.take_length, hZ]
      · simp [Value.ownBlock] at hg
        rw [← hg, retag_other _ _ _ hsm, retag_same]
    generalize retag (retag T sb (.rseen i m.groups.length)) mb .free = T1 at *
    have hx1 := hX.step hx s1 (fun _ _ h => h)
    have hB1 := hB.step s1 (fun h => h)
    have hR1 := hR.step s1 (fun h => h)
    have hG1 := hG.step s1 (fun h => h)
    have hI1 := fun k g hk => (hI k g hk).step s1 (fun h => h) (fun h => h)
    have c0 := hB1.cell (j := 0) rfl
    have m0 := hM.cell (j := 0) rfl
    have m1 := hM.cell (j := 1) rfl
    simp only [List.getElem_toArray, List.getElem_cons_succ, List.getElem_cons_zero] at c0 m0 m1
    have lb1 := hB1.lt
    have lm1 := hM.lt
    have gd1 := step_below (fun _ => False) T1 (Below.refl w1.heap.size w1).drew
    have hcall := hX.grp i bx m (nameB m.groups.length) st _ _ (hX.step hx1 gd1 (fun _ _ h => h)) (hf.mono hle)
    rw [hE] at hcall
    clear hB hR hG hI hx hr hsb hmb hb1 c5 c6 c7 lb hmk hS hnm hpq hst' hdf hdf1 hZ hsz
    go_wp2_with fail
    go_region_held3 (fun w' => w'.cell? ⟨b, 0, none⟩ = some (.pointer (some ⟨bx, 0, none⟩)) ∧ w'.cell? ⟨mb, 0, none⟩ = some (.string (nameB m.groups.length)) ∧ w'.cell? ⟨mb, 1, none⟩ = some (.int .i64 st)) (go_keep) (first | (go_at_call 74; refine hcall.mono ?_; clear hcall; rintro e w2 ⟨rfl, T2, hs2, hx2⟩; have k0 := ((hB1.step gd1 (fun h => h)).step hs2 (by simp [XT])).cell (j := 0) rfl; have j0' := ((hM.step gd1 (fun h => h)).step hs2 (by simp [XT])).cell (j := 0) rfl; have j1' := ((hM.step gd1 (fun h => h)).step hs2 (by simp [XT])).cell (j := 1) rfl; simp only [List.getElem_toArray, List.getElem_cons_succ, List.getElem_cons_zero] at k0 j0' j1'))
    have s12 := (gd1.mono (fun _ h => (h.elim : XT i _))).trans hs2
    have hB2 := hB1.step s12 (by simp [XT])
    have hR2 := hR1.step s12 (by simp [XT])
    have hG2 := hG1.step s12 (by simp [XT])
    have hI2 := fun k g hk => (hI1 k g hk).step s12 (by simp [XT]) (by simp [XT])
    have hM2 := hM.step s12 (by simp [XT])
    have hS2 := hSn.step s12 (by simp [XT])
    have s02 : Step (UT i) w T w2 T2 := (s1.mono (fun _ h => h.elim)).trans (s12.mono (fun _ h => .inl h))
    have c9 := hB2.cell (j := 9) rfl
    have c7 := hB2.cell (j := 7) rfl
    have z9 := hB2.frozen 9
    have z7 := hB2.frozen 7
    simp only [List.getElem_toArray, List.getElem_cons_succ, List.getElem_cons_zero] at c9 c7
    have lb2 := hB2.lt
    have lm2 := hM2.lt
    have hs3 : Step (fun t => t = .run i) w2 T2 (w2.setCell ⟨b, 9, none⟩ (.bool true)) T2 := step_setCell _ _ _ _ _ hB2.1
    have hB3 := hB2.set 9 (.bool true)
    have e9 : (runCells bx (m.rvU (itemsOf m) L) (.slice bo m.bodies.length bc) (.slice go m.groups.length gc)).setIfInBounds 9 (.bool true) = runCells bx (m.rvU (itemsOf m) L) (.slice bo m.bodies.length bc) (.slice go m.groups.length gc) := rfl
    rw [e9] at hB3
    have hR3 := hR2.step hs3 (by simp)
    have hG3 := hG2.step hs3 (by simp)
    have hI3 := fun k g hk => (hI2 k g hk).step hs3 (by simp) (by simp)
    have hM3 := hM2.step hs3 (by simp)
    have hS3 := hS2.step hs3 (by simp)
    have hx3 := hX.step hx2 hs3 xt_run
    have s03 := s02.trans (hs3.mono (fun _ h => rt_run i h))
    replace c9 : w2.cell? ⟨b, 9, none⟩ = some (.bool true) := c9
    clear hB1 hR1 hG1 hI1 hM hSn hs2 gd1 s12 k0 j0' j1' hB2 hR2 hG2 hI2 hM2 hS2 hs3 s02 e9 c0 m0 m1 lb1 lm1 s1 hx1 hx2
    go_wp2_with fail
    clear c9 c7 z9 z7 lb2 lm2
    generalize w2.setCell ⟨b, 9, none⟩ (.bool true) = w3 at *
    have c7 := hB3.cell (j := 7) rfl
    have m0 := hM3.cell (j := 0) rfl
    have m1 := hM3.cell (j := 1) rfl
    have m2 := hM3.cell (j := 2) rfl
    have m3 := hM3.cell (j := 3) rfl
    simp only [List.getElem_toArray, List.getElem_cons_succ, List.getElem_cons_zero] at c7 m0 m1 m2 m3
    have lb3 := hB3.lt
    have lm3 := hM3.lt
    obtain ⟨i0, hi, hz0, hz1, hz2⟩ := info_parts infoMember
    have gba := step_below (fun _ => False) T2 ((Below.refl w3.heap.size w3).drew.alloc (by simp) (.cells #[.string (nameB m.groups.length), .int .i64 st, .slice (some ⟨sb, 0, none⟩) m.bodies.length m.bodies.length, .slice none 0 0] 63))
    obtain ⟨g2', cap2, w5, T5, hrun, hR5, hs5⟩ := run_append_row (P := Tryz.prog) 55 55 63 i0 _ 4 72 Tryz.underlying55 hi hz0 hz1 hz2 rfl (by decide) _ _ _ (hG3.step gba (fun h => h)) ⟨w3.heap.size, 0, none⟩ 1 1 [.string (nameB m.groups.length), .int .i64 st, .slice (some ⟨sb, 0, none⟩) m.bodies.length m.bodies.length, .slice none 0 0] rfl (cells_new5 w3.drew _ 63) (by simp [Value.oneCell']) (by decide) (by unfold maxLen; omega) (by omega)
    have s35 := (gba.mono (fun _ h => (h.elim : _ = Tag.rgrp i))).trans hs5
    have hB5 := hB3.step s35 (by simp)
    have hd := rgrp_done (r := m.rvU (itemsOf m) L) (nm := nameB m.groups.length) (st := st) (n := m.bodies.length) (g2 := g2') (cap2 := cap2) (rvU_blen _ _ _) (by rw [rvU_blen]; exact g1) (by rw [rvU_len]; exact hK) hB5 (by rw [rvU_blen]; exact hR3.step s35 (by simp)) (fun k g hk => (hI3 k g hk).step s35 (by simp) (by simp)) (by rw [rvU_len]; exact hS3.step s35 (by simp)) (by rw [rvU_len]; exact hR5)
    obtain ⟨hrun5, hs6⟩ := hd
    rw [rvU_len] at hrun5 hs6
    have p7 := hB5.cell (j := 7) rfl
    have z7 := hB5.frozen 7
    simp only [List.getElem_toArray, List.getElem_cons_succ, List.getElem_cons_zero] at p7
    have lb5 := hB5.lt
    have hM' : mgrpM m (nameB m.groups.length) st = { m with groups := m.groups ++ [⟨nameB m.groups.length, st, List.replicate m.bodies.length It.zero, []⟩], changes := wrap64 (m.changes + 1) } := by simp [mgrpM, hE]
    have hfin : RunM (w5.setCell ⟨b, 7, none⟩ (.slice (some ⟨g2', 0, none⟩) (m.groups.length + 1) cap2)) T5 i b bx ((mgrpM m (nameB m.groups.length) st).rv L) := by
      rw [hM', rv_snoc (hq.out _ (Nat.le_refl _)) hf.ok]
      exact hrun5
    have hx5 := hX.step (hX.step hx3 s35 (by rintro t h rfl; exact absurd h.1 (by simp))) hs6 xt_run
    have s05 := (s03.trans (s35.mono (fun _ h => .inr (rt_rgrp i h)))).trans (hs6.mono (fun _ h => rt_run i h))
    have P := hide (And.intro s05 (And.intro hx5 (And.intro hfin (And.intro hfit hnice))))
    clear hB3 hR3 hG3 hI3 hM3 hS3 hx3 s03 gba hR5 hs5 s35 hB5 hrun5 hs6 hM' hfin hx5 s05 hfit hnice hq hf hE
    go_wp2_with fail
    go_region_law (refine step_append_known rfl _ _ 55 rfl _ _ _ rfl rfl hrun ?_)
    all_goals
      go_wp2
      go_end0
      rw [hst.out]
      exact ⟨rfl, T5, P.out⟩

end Go.Proofs.YtockkceclkcgbaaGreatDoor

/- Helpers over any program: a region that draws its order, whose operations read, but for a tail that waits for all of them (a store): the head goes by one walk, the tail as it stands. -/
namespace Go.Proofs.YtockkceclkcgbaaGreatDoor
open Go.RowKit

theorem wpStill_of_quiet {P : Program} {ops : Array Oper} {w : World} {Q : Act → Prop} : ∀ (l : List Oper) (a : Act), wpQuiet P ops (fun w' => w' = w) Q l a → wpStill P ops w Q l a
  | [], _, h => h
  | o :: rest, a, h => by
    unfold wpQuiet at h
    unfold wpStill
    by_cases hw : Region.wanted o (yielded ops a.tmps) = true
    · rw [if_pos hw] at h ⊢
      obtain ⟨v, h1, h2⟩ := h
      have h3 := h1 w rfl
      have h4 := wpStill_of_quiet rest _ h2
      unfold Oper.quietAt at h3
      unfold Oper.still
      generalize (execOp a.eval o).run P w = r at *
      cases r with
      | ok n w' =>
        cases n with
        | value u =>
          simp only [Oper.quietUpon] at h3
          simp only [Oper.stillUpon]
          rw [h3.2]
          exact ⟨h3.1, h4⟩
        | skip =>
          simp only [Oper.quietUpon] at h3
          simp only [Oper.stillUpon]
          rw [h3.2] at h4
          exact ⟨h3.1, h4⟩
        | enter f args =>
          simp only [Oper.quietUpon] at h3
          simp only [Oper.stillUpon]
          exact ⟨h3.1, v, h3.2, h4⟩
        | _ => simp [Oper.quietUpon] at h3
      | _ => simp [Oper.quietUpon] at h3
    · rw [if_neg hw] at h ⊢
      exact wpStill_of_quiet rest _ h

theorem wp_region_tail {P : Program} {id : Nat} {Q : Exit → Act → World → Prop} {a : Act} {w : World} {l : List Oper} (n : Nat) (hm : P.follows .mixedOrders = true) (hB : Region.lexTailB .any l.toArray n = true)
    (h : wpQuiet P l.toArray (fun w' => w' = w.drew) (fun a' => wpList P l.toArray Q (l.drop n) a' w.drew) (l.take n) a) : (Code.region id l.toArray true).wp P Q a w :=
  wp_region_still_tail n hm hB (wpStill_of_quiet _ _ h)

end Go.Proofs.YtockkceclkcgbaaGreatDoor

/- The contract of a run's took: one delivery is seen. -/
namespace Go.Proofs.YtockkceclkcgbaaGreatDoor
open Go.RowKit

theorem infoIntR : (Tryz.prog.info? 3).map (fun i => (i.zero, i.size, i.bytes)) = some (some (.int .i64 0), 1, 8) := by kernel_rfl

attribute [local go_sem] over_cell

set_option maxRecDepth 100000 in
set_option maxHeartbeats 8000000 in
theorem took_any (i b bx gb gc : Nat) (m : MQ) (U : Nat → List It) (L : Nat → List Nat) (k : Nat) (g : MG) (d : Dl) (w : World) (T : Nat → Tag) (hr : RunG w T i b bx gb gc m U L) (hg : m.groups[k]? = some g) (hd : okD m g.start (U k) d) (hl : (L k).length ≤ 4000) (hgo : goodC m.c = true) (ht : 0 ≤ m.time ∧ m.time ≤ 4000000000000000000) :
    Calls Tryz.prog 56 #[.pointer (some ⟨b, 0, none⟩), .pointer (some ⟨gb, k * 4, none⟩), .agg #[.int .i64 d.off, .int .i64 d.tr, .string d.body]] w fun e w' => e = .returned (.tuple #[]) ∧
      ∃ T', Step (RT i) w T w' T' ∧ RunG w' T' i b bx gb gc m (updF U k (tookI m (U k) d)) (updF L k (L k ++ [d.off.toNat])) := by
  obtain ⟨⟨hl1, hl2⟩, ⟨hd1, hd2⟩, _, _⟩ := good_all hgo
  obtain ⟨n, x, ho, hx, o1, o2, o3, o4, o5, o6, o0, o7, o8, o9⟩ := hd
  obtain ⟨dO, dT, dB⟩ := d
  simp only at ho o7 o8 o9
  subst ho
  have hb : m.bodies[n]? = some dB := by rw [o9]; simp [List.getD, List.getElem?_eq_getElem o3]
  clear o9
  subst o7
  have eT : tookI m (U k) ⟨n, (x.tries + 1), dB⟩ = (U k).set n { x with tries := (x.tries + 1), till := m.time + m.c.l } := tookI_at rfl hx
  rw [eT]
  simp only [Int.toNat_natCast]
  clear eT
  have s1 := step_new w T (.cells #[.int .i64 n, .int .i64 (x.tries + 1), .string dB] 82) .free (fun _ => False)
  have hO := blk_new w T #[.int .i64 n, .int .i64 (x.tries + 1), .string dB] 82 .free
  have hr1 := hr.step s1 (fun _ _ h => h)
  go_enter Tryz.func56, Tryz.ntmps56
  go_wp2_with fail
  generalize retag T w.heap.size .free = T1 at *
  generalize w.alloc (.cells #[.int .i64 (n : Int), .int .i64 (x.tries + 1), .string dB] 82) = w1 at *
  generalize w.heap.size = ob at hO ⊢
  obtain ⟨bo, bc, so, sc, lo, lc, A⟩ := hr1.at hg
  have q0 := hO.cell (j := 0) rfl
  have lO := hO.lt
  have lb := A.lb
  have lg := A.lg
  have c5 := A.c5
  have c6 := A.c6
  have e1 := A.d1
  have f1 : decide ((n : Int) < m.floor) = false := by simp; omega
  have f2 : decide ((n : Int) < g.start) = false := by simp; omega
  have f3 : decide ((m.bodies.length : Int) ≤ (n : Int)) = false := by simp; omega
  simp only [List.getElem_toArray, List.getElem_cons_zero] at q0
  clear A
  refine wp_region_over (by kernel_rfl) (by kernel_rfl) ?_
  repeat (go_big_quiet_step (fail))
  refine wpQuiet_nil ?_
  rintro _ ⟨x2, rfl⟩
  have g2 := step_below (fun _ => False) T1 (over_below w1 x2)
  generalize over w1 x2 = w2 at *
  have hr2 := hr1.step g2 (fun _ _ h => h)
  have hO2 := hO.step g2 (fun h => h)
  have s2 := s1.trans g2
  clear hr1 hO s1 g2 q0 lO lb lg c5 c6 e1
  obtain ⟨bo, bc, so, sc, lo, lc, A2⟩ := hr2.at hg
  obtain ⟨gi, _, e⟩ := row_some A2.see (by omega)
  cases e
  obtain ⟨gz, _, e⟩ := row_some A2.bod (by omega)
  cases e
  have q0 := hO2.cell (j := 0) rfl
  simp only [List.getElem_toArray, List.getElem_cons_zero] at q0
  have lO := hO2.lt
  have lg := A2.lg
  have e2 := A2.d2
  go_wp2_with fail
  refine wp_region_over (by kernel_rfl) (by kernel_rfl) ?_
  repeat (go_big_quiet_step (fail))
  refine wpQuiet_nil ?_
  rintro _ ⟨x3, rfl⟩
  have g3 := step_below (fun _ => False) T1 (over_below w2 x3)
  generalize over w2 x3 = w3 at *
  have hr3 := hr2.step g3 (fun _ _ h => h)
  have hO3 := hO2.step g3 (fun h => h)
  have A := A2.step g3 (fun _ _ h => h)
  have s3 := s2.trans g3
  clear hr2 hO2 s2 g3 q0 lO lg e2 A2
  have hsee := A.see
  have hbod := A.bod
  have hU : (U k).length = m.bodies.length := by have := hsee.1.1; rw [seenVals_length] at this; omega
  have lb := A.lb
  have lg := A.lg
  have li := hsee.lt
  have lz := hbod.lt
  have lO := hO3.lt
  have c2 := A.c2
  have c5 := A.c5
  have c8 := A.c8
  have c10 := A.c10
  have e2 := A.d2
  have z10 := A.fb 10
  obtain ⟨t0, t1, t2, t3⟩ := seenVals_at (U k) n x hx
  replace t0 := hsee.cell t0
  replace t1 := hsee.cell t1
  replace t2 := hsee.cell t2
  replace t3 := hsee.cell t3
  have tz : w3.cell? ⟨gz, n, none⟩ = some (.string dB) := hbod.cell (by simp [hb])
  have q0 := hO3.cell (j := 0) rfl
  have q1 := hO3.cell (j := 1) rfl
  have q2 := hO3.cell (j := 2) rfl
  simp only [List.getElem_toArray, List.getElem_cons_succ, List.getElem_cons_zero] at q0 q1 q2
  have o4' : decide (0 < x.done) = false := by simpa using o4
  rw [o4'] at t1
  have f5 : decide (x.till ≤ m.time) = true := by simpa using o5
  have f6 : decide (x.after ≤ m.time) = true := by simpa using o6
  have f8 : decide (x.tries + 1 ≤ m.c.d) = true := by simpa using o8
  have hq : (dB.toList == dB.toList) = true := by simp
  have hneO : ob ≠ b := fun e => by have := hO3.1; rw [e, A.tb] at this; simp at this
  have hnei : gi ≠ b := fun e => by have := hsee.2 gi rfl; rw [e, A.tb] at this; simp at this
  have hnez : gz ≠ b := fun e => by have := hbod.2 gz rfl; rw [e, A.tb] at this; simp at this
  have z0 := hsee.frozen (n * 4)
  obtain ⟨hr4, s4⟩ := hr3.flag 10 (by simp)
  have hO4 := hO3.step s4 (by simp)
  have d24 := (s4.cell (p := ⟨gb, k * 4 + 2, none⟩) lg (by rw [A.tg]; simp)).trans A.d2
  have lg4 := Nat.lt_of_lt_of_le lg s4.size
  have tg4 := (s4.tag gb lg).trans A.tg
  obtain ⟨hr5, s5⟩ := hr4.seen (k := k) (j := n * 4) (v := .int .i64 (x.tries + 1)) hg d24 (by omega) ((seenVals_set (U k) n x hx).1 (x.tries + 1))
  have hO5 := hO4.step s5 (by simp)
  have d25 := (s5.cell (p := ⟨gb, k * 4 + 2, none⟩) lg4 (by rw [tg4]; simp)).trans d24
  have gdr := step_below (fun _ => False) T1 (Below.refl ((w3.setCell ⟨b, 10, none⟩ (.bool true)).setCell ⟨gi, n * 4, none⟩ (.int .i64 (x.tries + 1))).heap.size ((w3.setCell ⟨b, 10, none⟩ (.bool true)).setCell ⟨gi, n * 4, none⟩ (.int .i64 (x.tries + 1)))).drew
  replace hr5 := hr5.step gdr (fun _ _ h => h)
  replace hO5 := hO5.step gdr (fun h => h)
  have s05 := ((s3.mono (fun _ h => (h.elim : RT i _))).trans (s4.mono (fun _ h => rt_itself i h))).trans ((s5.mono (fun _ h => rt_rseen i k h)).trans (gdr.mono (fun _ h => h.elim)))
  have hw1 : IntKind.i64.wrap (x.tries + 1) = x.tries + 1 := by rw [IntWalk.i64_left, IntWalk.wrap64_in _ ⟨by omega, by omega⟩]
  have P := hide (And.intro hr5 (And.intro hO5 (And.intro s05 d25)))
  clear hr4 hO4 s05 s4 A gdr hr3 hO3 s3 hsee hbod hr d24 hr5 hO5 d25 lg4 tg4 s5
  go_wp2_with fail
  dsimp only [List.append]
  refine wp_region_tail 69 (by kernel_rfl) (by kernel_rfl) ?_
  simp only [List.take_succ_cons, List.take_zero, List.drop_succ_cons, List.drop_zero]
  repeat (go_big_quiet_step (fail))
  refine wpQuiet_nil ?_
  go_wp2_with fail
  obtain ⟨hr5, hO5, s05, d25⟩ := P.out
  replace d25 : ((w3.setCell ⟨b, 10, none⟩ (.bool true)).setCell ⟨gi, n * 4, none⟩ (.int .i64 (x.tries + 1))).drew.cell? ⟨gb, k * 4 + 2, none⟩ = some (.slice (some ⟨gi, 0, none⟩) m.bodies.length sc) := d25
  clear P lb lg li lz lO c2 c5 c8 c10 e2 z10 z0 t0 t1 t2 t3 tz q0 q1 q2
  generalize ((w3.setCell ⟨b, 10, none⟩ (.bool true)).setCell ⟨gi, n * 4, none⟩ (.int .i64 (x.tries + 1))).drew = w5 at *
  obtain ⟨bo5, bc5, lo5, lc5, A⟩ := hr5.atS hg d25
  rw [updF_same] at A
  have hsee := A.see
  have lb := A.lb
  have lg := A.lg
  have li := hsee.lt
  have c1 := A.c1
  have c8 := A.c8
  have z2 := hsee.frozen (n * 4 + 2)
  have hx5 : ((U k).set n { x with tries := x.tries + 1 })[n]? = some { x with tries := x.tries + 1 } := by simp [hU, o3]
  have t2 := hsee.cell (seenVals_at _ n _ hx5).2.2.1
  have hw2 : IntKind.i64.wrap (m.time + m.c.l) = m.time + m.c.l := by rw [IntWalk.i64_left, IntWalk.wrap64_in _ ⟨by omega, by omega⟩]
  obtain ⟨hr6, s6⟩ := hr5.seen (k := k) (j := n * 4 + 2) (v := .int .i64 (m.time + m.c.l)) (u' := (U k).set n { x with tries := x.tries + 1, till := m.time + m.c.l }) hg d25 (by omega) (by rw [updF_same, (seenVals_set _ n _ hx5).2.2.1 (m.time + m.c.l)]; simp [List.set_set])
  rw [updF_twice] at hr6
  have hO6 := hO5.step s6 (by simp)
  have gdr := step_below (fun _ => False) T1 (Below.refl (w5.setCell ⟨gi, n * 4 + 2, none⟩ (.int .i64 (m.time + m.c.l))).heap.size (w5.setCell ⟨gi, n * 4 + 2, none⟩ (.int .i64 (m.time + m.c.l)))).drew
  replace hr6 := hr6.step gdr (fun _ _ h => h)
  replace hO6 := hO6.step gdr (fun h => h)
  have s06 := s05.trans ((s6.mono (fun _ h => rt_rseen i k h)).trans (gdr.mono (fun _ h => h.elim)))
  have P := hide (And.intro hr6 (And.intro hO6 s06))
  clear hr6 hO6 s06 s6 gdr A hsee hr5 hO5 s05 d25 hx5
  refine wp_region_tail 13 (by kernel_rfl) (by kernel_rfl) ?_
  simp only [List.take_succ_cons, List.take_zero, List.drop_succ_cons, List.drop_zero]
  repeat (go_big_quiet_step (fail))
  refine wpQuiet_nil ?_
  go_wp2_with fail
  obtain ⟨hr6, hO6, s06⟩ := P.out
  clear P lb lg li c1 c8 z2 t2
  generalize (w5.setCell ⟨gi, n * 4 + 2, none⟩ (.int .i64 (m.time + m.c.l))).drew = w6 at *
  obtain ⟨bo6, bc6, so6, sc6, lo6, lc6, A⟩ := hr6.at hg
  have lg := A.lg
  have lO := hO6.lt
  have d3 := A.d3
  have q0 := hO6.cell (j := 0) rfl
  simp only [List.getElem_toArray, List.getElem_cons_zero] at q0
  obtain ⟨i0, hi, hz0, hz1, hz2⟩ := info_parts infoIntR
  have gba := step_below (fun _ => False) T1 ((Below.refl w6.heap.size w6).drew.alloc (by simp) (.cells #[.int .i64 (n : Int)] 3))
  have hla := A.last.step gba (fun h => h)
  obtain ⟨og, oc, w9, T9, hrun9, hL9, s9⟩ := run_append_row (P := Tryz.prog) 50 50 3 i0 _ 1 8 Tryz.underlying50 hi hz0 hz1 hz2 rfl (by decide) _ _ _ hla ⟨w6.heap.size, 0, none⟩ 1 1 [.int .i64 (n : Int)] rfl (cells_new5 w6.drew _ 3) (by simp [Value.oneCell']) (by decide) (by unfold maxLen; omega) (by omega)
  have s69 := (gba.mono (fun _ h => (h.elim : _ = Tag.rlast i k))).trans s9
  obtain ⟨hrX, sX⟩ := hr6.add (l' := L k ++ [n]) hg s69 (by simpa [natV] using hL9)
  have d39 := (s69.cell (p := ⟨gb, k * 4 + 3, none⟩) lg (by rw [A.tg]; simp)).trans d3
  have z39 := (s69.frozen (p := ⟨gb, k * 4 + 3, none⟩) lg (by rw [A.tg]; simp)).trans (A.fg _)
  have l69 := Nat.lt_of_lt_of_le lg s69.size
  have P := hide (And.intro hrX (s06.trans sX))
  clear hrX s06 sX A hr6 hO6 hla hL9 s9 s69 gba
  go_region_law (refine step_append_known rfl _ _ 50 rfl _ _ _ rfl rfl hrun9 ?_)
  all_goals
    go_wp2
    go_end0
    exact ⟨rfl, T9, P.out.2, P.out.1⟩

end Go.Proofs.YtockkceclkcgbaaGreatDoor

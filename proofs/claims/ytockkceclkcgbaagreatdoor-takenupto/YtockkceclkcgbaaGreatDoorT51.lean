/- UpTo, walked: it returns -1, and changes nothing that was there. -/
import Derived.Test.YtockkceclkcgbaaGreatDoorT42
import Derived.Test.YtockkceclkcgbaaGreatDoorT28
import Derived.Deep.DeepHandedRow
import Derived.ProofKit
import Derived.Deep.Slices
import Derived.Lib.SmallJoins
import Derived.OpenShut
import Derived.JoinedCond
namespace Go.Proofs.YtockkceclkcgbaaGreatDoor
open Go.RowKit

/-- the world with which UpTo begins its first steps -/
theorem upTo_start (c d : Conf) (w : World) : ∃ w4 T4, w4 = (((w.alloc (.cells c.cells 23)).alloc (.cells d.cells 23)).alloc (.cells #[.int .i64 10, .int .i64 2, .int .i64 2, .int .i64 5, .int .i64 0, .int .i64 0, .int .i64 0, .int .i64 0, .slice none 0 0, .slice none 0 0, .slice none 0 0, .int .i64 12] 33)).alloc (.cells #[.int .i64 1, .int .i64 0, .string ⟨#[]⟩, .string ⟨#[]⟩, .int .i64 0, .int .i64 0, .int .i64 0, .bool false, .int .i64 2, .int .i64 0, .string ⟨#[]⟩, .string ⟨#[97]⟩, .int .i64 0, .int .i64 0, .int .i64 0, .bool false, .int .i64 3, .int .i64 0, .string ⟨#[103]⟩, .string ⟨#[]⟩, .int .i64 0, .int .i64 0, .int .i64 0, .bool false, .int .i64 4, .int .i64 0, .string ⟨#[103]⟩, .string ⟨#[]⟩, .int .i64 9, .int .i64 0, .int .i64 0, .bool false, .int .i64 5, .int .i64 0, .string ⟨#[103]⟩, .string ⟨#[]⟩, .int .i64 0, .int .i64 0, .int .i64 0, .bool false, .int .i64 9, .int .i64 0, .string ⟨#[103]⟩, .string ⟨#[]⟩, .int .i64 0, .int .i64 0, .int .i64 0, .bool false] 46) ∧ Step (fun t => t ≠ .old) w (fun _ => .old) w4 T4 ∧
    WT X 0 w4 T4 (w.heap.size + 1 + 1) conf0 confZ 12 [] 0 0 ∧ Blk w4 T4 .old w.heap.size c.cells 23 ∧ Blk w4 T4 .old (w.heap.size + 1) d.cells 23 ∧
    ArgO w4 (some ⟨w.heap.size + 1 + 1 + 1, 0, none⟩) firstOps ∧ T4 (w.heap.size + 1 + 1 + 1) = .old := by
  obtain ⟨T1, f1, hw1, hc1, hd1⟩ := law_start c d 12 w
  have e3 : ((w.alloc (.cells c.cells 23)).alloc (.cells d.cells 23)).alloc (.cells (wtCells conf0 confZ (.slice none 0 0) (.slice none 0 0) (.slice none 0 0) 12) 33) = ((w.alloc (.cells c.cells 23)).alloc (.cells d.cells 23)).alloc (.cells #[.int .i64 10, .int .i64 2, .int .i64 2, .int .i64 5, .int .i64 0, .int .i64 0, .int .i64 0, .int .i64 0, .slice none 0 0, .slice none 0 0, .slice none 0 0, .int .i64 12] 33) := rfl
  rw [e3] at f1 hw1 hc1 hd1
  clear e3
  have s3 : (((w.alloc (.cells c.cells 23)).alloc (.cells d.cells 23)).alloc (.cells #[.int .i64 10, .int .i64 2, .int .i64 2, .int .i64 5, .int .i64 0, .int .i64 0, .int .i64 0, .int .i64 0, .slice none 0 0, .slice none 0 0, .slice none 0 0, .int .i64 12] 33)).heap.size = w.heap.size + 1 + 1 + 1 := by simp
  generalize ((w.alloc (.cells c.cells 23)).alloc (.cells d.cells 23)).alloc (.cells #[.int .i64 10, .int .i64 2, .int .i64 2, .int .i64 5, .int .i64 0, .int .i64 0, .int .i64 0, .int .i64 0, .slice none 0 0, .slice none 0 0, .slice none 0 0, .int .i64 12] 33) = w3 at *
  have e4 : (#[.int .i64 1, .int .i64 0, .string ⟨#[]⟩, .string ⟨#[]⟩, .int .i64 0, .int .i64 0, .int .i64 0, .bool false, .int .i64 2, .int .i64 0, .string ⟨#[]⟩, .string ⟨#[97]⟩, .int .i64 0, .int .i64 0, .int .i64 0, .bool false, .int .i64 3, .int .i64 0, .string ⟨#[103]⟩, .string ⟨#[]⟩, .int .i64 0, .int .i64 0, .int .i64 0, .bool false, .int .i64 4, .int .i64 0, .string ⟨#[103]⟩, .string ⟨#[]⟩, .int .i64 9, .int .i64 0, .int .i64 0, .bool false, .int .i64 5, .int .i64 0, .string ⟨#[103]⟩, .string ⟨#[]⟩, .int .i64 0, .int .i64 0, .int .i64 0, .bool false, .int .i64 9, .int .i64 0, .string ⟨#[103]⟩, .string ⟨#[]⟩, .int .i64 0, .int .i64 0, .int .i64 0, .bool false] : Array Value) = (opsCells firstOps).toArray := rfl
  rw [e4]
  have a4 := step_new w3 T1 (.cells (opsCells firstOps).toArray 46) .old (fun _ => False)
  have b4 := first_arg w3
  have r4 := retag_same T1 w3.heap.size .old
  refine ⟨_, _, rfl, (f1.trans a4).mono (fun _ h => h.elim), hw1.step (xc 0 (by decide)) a4 (fun _ h => h), hc1.step a4 (fun h => h), hd1.step a4 (fun h => h), ?_, ?_⟩
  · rw [← s3]; exact b4
  · rw [← s3]; exact r4

set_option maxRecDepth 100000 in
set_option maxHeartbeats 8000000 in
theorem upTo_any (c d : Conf) (l : List OpV) (ao : Option Addr) (cap : Nat) (w : World) (hl : ArgO w ao l) (hlen : l.length ≤ 1048576) :
    Calls Tryz.prog 18 #[.agg c.cells, .agg d.cells, .slice ao l.length cap, .int .i64 12] w fun e w' => e = .returned (.int .i64 (-1)) ∧ Below w.heap.size w w' := by
  have hX := xc 3000000000000 (by decide)
  obtain ⟨w4, T4, e4, f4, hw4, hc4, hd4, hA4, hT4⟩ := upTo_start c d w
  go_enter Tryz.func18, Tryz.ntmps18
  go_wp2_with fail
  rw [← e4]
  clear e4
  generalize w.heap.size + 1 + 1 + 1 = fb at *
  generalize w.heap.size + 1 + 1 = wb at *
  generalize hdb : w.heap.size + 1 = db at *
  generalize hcb : w.heap.size = cb at hc4 ⊢
  go_loopw [11] (fun x wr => ∃ (k : Nat) (T' : Nat → Tag) (qs : List Nat) (q1 q1' : Nat), k ≤ 6 ∧ x = .int .i64 k ∧ Step (fun t => t ≠ .old) w4 T4 wr T' ∧ WT X (60000 * (k : Int)) wr T' wb conf0 confZ 12 qs q1 q1' ∧ (k = 0 ∨ 0 < qs.length) ∧ qs.length ≤ k ∧ q1 ≤ 2 * k ∧ q1' ≤ 2 * k) (fun x _ => 6 - (intOf x).toNat)
  case atStart => exact ⟨0, T4, [], 0, 0, Nat.zero_le _, rfl, Step.refl _ _ _, hw4, .inl rfl, Nat.zero_le _, Nat.zero_le _, Nat.zero_le _⟩
  case round =>
    obtain ⟨k, T', qs, q1, q1', hk, rfl, hs, hw, hp, hq, g1, g1'⟩ := hrel
    by_cases hlt : k < 6
    · obtain ⟨o, ho⟩ : ∃ o, firstOps[k]? = some o := ⟨_, List.getElem?_eq_getElem (by exact hlt)⟩
      obtain ⟨h1, h2, ob, off, e, hob, hcl⟩ := hA4 k o ho
      simp only [Option.some.injEq, Addr.mk.injEq] at e
      obtain ⟨rfl, rfl, _⟩ := e
      have q0 := (hs.cell (p := ⟨fb, 0 + k * 8 + 0, none⟩) hob (by simp [hT4])).trans (hcl 0 _ rfl)
      have q1 := (hs.cell (p := ⟨fb, 0 + k * 8 + 1, none⟩) hob (by simp [hT4])).trans (hcl 1 _ rfl)
      have q2 := (hs.cell (p := ⟨fb, 0 + k * 8 + 2, none⟩) hob (by simp [hT4])).trans (hcl 2 _ rfl)
      have q3 := (hs.cell (p := ⟨fb, 0 + k * 8 + 3, none⟩) hob (by simp [hT4])).trans (hcl 3 _ rfl)
      have q4 := (hs.cell (p := ⟨fb, 0 + k * 8 + 4, none⟩) hob (by simp [hT4])).trans (hcl 4 _ rfl)
      have q5 := (hs.cell (p := ⟨fb, 0 + k * 8 + 5, none⟩) hob (by simp [hT4])).trans (hcl 5 _ rfl)
      have q6 := (hs.cell (p := ⟨fb, 0 + k * 8 + 6, none⟩) hob (by simp [hT4])).trans (hcl 6 _ rfl)
      have q7 := (hs.cell (p := ⟨fb, 0 + k * 8 + 7, none⟩) hob (by simp [hT4])).trans (hcl 7 _ rfl)
      rw [Nat.add_zero] at q0
      simp only [List.getElem_toArray, List.getElem_cons_succ, List.getElem_cons_zero, Nat.zero_add] at q0 q1 q2 q3 q4 q5 q6 q7
      have hpos : 0 < qs.length ∨ (o.kind = 1 ∧ goodC (selC o.n conf0 confZ) = true) := by
        rcases hp with rfl | hp
        · right
          simp only [firstOps, List.getElem?_cons_zero, Option.some.injEq] at ho
          subst ho
          exact ⟨rfl, by decide⟩
        · exact .inl hp
      have hst := step_pos (B := 60000 * (k : Int)) (by omega) (by omega) wb conf0 confZ 12 (by decide) qs _ _ o.kind o.qu o.nm o.bd o.n o.tr o.ms o.yes wr T' hw h2 h1 hpos (by omega) (by omega) (by omega)
      clear hl hcl hA4 hw hp hpos ho hc4 hd4 f4 hT4 hw4
      go_wp2_with fail
      unfold opCells at hst
      refine hst.mono ?_
      clear hst
      rintro e w9 ⟨rfl, T9, qs9, q9, q9', hs9, hw9, a9, b9, g9, g9'⟩
      go_wp2
      refine ⟨⟨k + 1, T9, qs9, q9, q9', by omega, by simp, hs.trans hs9, by rw [show (60000 : Int) * ((k + 1 : Nat) : Int) = 60000 * (k : Int) + 60000 by omega]; exact hw9, .inr a9, by omega, by omega, by omega⟩, by simp [intOf]; omega⟩
    · have hk6 : k = 6 := by omega
      subst hk6
      replace hp : 0 < qs.length := by omega
      have hc5 := hc4.step hs (by simp)
      have hd5 := hd4.step hs (by simp)
      replace f4 := f4.trans hs
      clear hA4 hc4 hd4 hT4 hw4 hs hlt hk
      have hw' : WT X 360000 wr T' wb conf0 confZ 12 qs q1 q1' := hw
      clear hw
      -- the caller's two configurations
      obtain ⟨hw5, hs5⟩ := hw'.conf0 hX c
      obtain ⟨⟨vP4, vr4, vd4, hB4, _, _, _⟩, _⟩ := hw'
      have e0 := hB4.cell (j := 0) rfl
      have e1 := hB4.cell (j := 1) rfl
      have e2 := hB4.cell (j := 2) rfl
      have e3 := hB4.cell (j := 3) rfl
      have z0 := hB4.frozen 0
      have z1 := hB4.frozen 1
      have z2 := hB4.frozen 2
      have z3 := hB4.frozen 3
      have g0 := hc5.cell (j := 0) rfl
      have g1 := hc5.cell (j := 1) rfl
      have g2 := hc5.cell (j := 2) rfl
      have g3 := hc5.cell (j := 3) rfl
      simp only [List.getElem_toArray, List.getElem_cons_succ, List.getElem_cons_zero] at e0 e1 e2 e3 g0 g1 g2 g3
      go_wp2_with fail
      go_region
      have hw5d := hw5.step hX (step_below (fun _ => False) T' (Below.refl _ _).drew) (fun _ h => h)
      have hs5d := hs5.trans (step_below (fun t => t = .world) T' (Below.refl _ _).drew)
      replace hd5 := hd5.step hs5d (by simp)
      have f5 := f4.trans (notOld_world hs5d (by simp))
      clear hw5 hs5 hs5d hB4 e0 e1 e2 e3 z0 z1 z2 z3 g0 g1 g2 g3 hc5 f4
      generalize ((((wr.setCell ⟨wb, 0, none⟩ (.int .i64 c.l)).setCell ⟨wb, 1, none⟩ (.int .i64 c.d)).setCell ⟨wb, 2, none⟩ (.int .i64 c.s)).setCell ⟨wb, 3, none⟩ (.int .i64 c.k)).drew = w5 at *
      obtain ⟨hw6, hs6⟩ := hw5d.conf1 hX d
      obtain ⟨⟨vP5, vr5, vd5, hB5, _, _, _⟩, _⟩ := hw5d
      have e4 := hB5.cell (j := 4) rfl
      have e5 := hB5.cell (j := 5) rfl
      have e6 := hB5.cell (j := 6) rfl
      have e7 := hB5.cell (j := 7) rfl
      have z4 := hB5.frozen 4
      have z5 := hB5.frozen 5
      have z6 := hB5.frozen 6
      have z7 := hB5.frozen 7
      have g0 := hd5.cell (j := 0) rfl
      have g1 := hd5.cell (j := 1) rfl
      have g2 := hd5.cell (j := 2) rfl
      have g3 := hd5.cell (j := 3) rfl
      simp only [List.getElem_toArray, List.getElem_cons_succ, List.getElem_cons_zero] at e4 e5 e6 e7 g0 g1 g2 g3
      go_wp2_with fail
      go_region
      have hw6d := hw6.step hX (step_below (fun _ => False) T' (Below.refl _ _).drew) (fun _ h => h)
      have hs6d := hs6.trans (step_below (fun t => t = .world) T' (Below.refl _ _).drew)
      have f6 := f5.trans (notOld_world hs6d (by simp))
      clear hw6 hs6 hs6d hB5 e4 e5 e6 e7 z4 z5 z6 z7 g0 g1 g2 g3 hd5 f5
      generalize ((((w5.setCell ⟨wb, 4, none⟩ (.int .i64 d.l)).setCell ⟨wb, 5, none⟩ (.int .i64 d.d)).setCell ⟨wb, 6, none⟩ (.int .i64 d.s)).setCell ⟨wb, 7, none⟩ (.int .i64 d.k)).drew = w6 at *
      clear hcb hdb
      go_wp2_with fail
      go_loopw [13] (fun x wx => ∃ (k : Nat) (Tx : Nat → Tag) (rs : List Nat) (r r' : Nat), k ≤ l.length ∧ x = .int .i64 k ∧ Step (fun t => t ≠ .old) w (fun _ => .old) wx Tx ∧ WT X (60000 * ((k : Int) + 6)) wx Tx wb c d 12 rs r r' ∧ 0 < rs.length ∧ rs.length ≤ k + 6 ∧ r ≤ 2 * (k + 6) ∧ r' ≤ 2 * (k + 6)) (fun x _ => l.length - (intOf x).toNat)
      case atStart => exact ⟨0, T', qs, q1, q1', Nat.zero_le _, rfl, f6, hw6d, hp, by omega, by omega, by omega⟩
      case round =>
        obtain ⟨k, Tx, rs, r, r', hk, rfl, hs, hw, hpx, hqx, gx, gx'⟩ := hrel
        clear hw6d f6 hp hq g1 g1'
        by_cases hlt : k < l.length
        · obtain ⟨o, ho⟩ : ∃ o, l[k]? = some o := ⟨_, List.getElem?_eq_getElem hlt⟩
          obtain ⟨h1, h2, ob, off, rfl, hob, hcl⟩ := hl k o ho
          have q0 := (hs.cell (p := ⟨ob, off + k * 8 + 0, none⟩) hob (by simp)).trans (hcl 0 _ rfl)
          have q1 := (hs.cell (p := ⟨ob, off + k * 8 + 1, none⟩) hob (by simp)).trans (hcl 1 _ rfl)
          have q2 := (hs.cell (p := ⟨ob, off + k * 8 + 2, none⟩) hob (by simp)).trans (hcl 2 _ rfl)
          have q3 := (hs.cell (p := ⟨ob, off + k * 8 + 3, none⟩) hob (by simp)).trans (hcl 3 _ rfl)
          have q4 := (hs.cell (p := ⟨ob, off + k * 8 + 4, none⟩) hob (by simp)).trans (hcl 4 _ rfl)
          have q5 := (hs.cell (p := ⟨ob, off + k * 8 + 5, none⟩) hob (by simp)).trans (hcl 5 _ rfl)
          have q6 := (hs.cell (p := ⟨ob, off + k * 8 + 6, none⟩) hob (by simp)).trans (hcl 6 _ rfl)
          have q7 := (hs.cell (p := ⟨ob, off + k * 8 + 7, none⟩) hob (by simp)).trans (hcl 7 _ rfl)
          rw [Nat.add_zero] at q0
          simp only [List.getElem_toArray, List.getElem_cons_succ, List.getElem_cons_zero] at q0 q1 q2 q3 q4 q5 q6 q7
          have hst := step_pos (B := 60000 * ((k : Int) + 6)) (by omega) (by omega) wb c d 12 (by decide) rs _ _ o.kind o.qu o.nm o.bd o.n o.tr o.ms o.yes wr Tx hw h2 h1 (.inl hpx) (by omega) (by omega) (by omega)
          clear hl hcl hw ho
          go_wp2_with fail
          unfold opCells at hst
          refine hst.mono ?_
          clear hst
          rintro e w9 ⟨rfl, T9, qs9, q9, q9', hs9, hw9, a9, b9, g9, g9'⟩
          have lw9 : wb < w9.heap.size := hw9.see.choose_spec.choose_spec.1
          clear q0 q1 q2 q3 q4 q5 q6 q7
          go_wp2_with fail
          refine (wholeW wb c d 12 qs9 q9 q9' _ T9 hw9 (by omega) (by omega)).mono ?_
          rintro e wz ⟨rfl, hbz⟩
          have hsz := step_below (fun _ => False) T9 hbz
          have hwz := hw9.step hX hsz (fun _ h => h)
          go_wp2
          refine ⟨?_, ?_⟩
          · refine ⟨_, _, _, _, _, _, _, _, _, _, _, _, _, _, _, _, _, _, _, _, _, _, _, _, _, _, _, ⟨k + 1, T9, qs9, q9, q9', ?_, ?_, ?_, ?_, ?_, ?_, ?_, ?_⟩, rfl⟩
            · omega
            · simp
            · exact (hs.trans hs9).trans (hsz.mono (fun _ h => h.elim))
            · rw [show (60000 : Int) * (((k + 1 : Nat) : Int) + 6) = 60000 * ((k : Int) + 6) + 60000 by omega]; exact hwz
            · exact a9
            · omega
            · omega
            · omega
          · simp [intOf]; omega
        · have hask := asked_any hX (B := 60000 * ((k : Int) + 6)) (by omega) wb c d 12 rs r r' wr Tx hw (by omega) (by omega) (by omega)
          clear hl hw
          go_wp2_with fail
          refine hask.mono ?_
          clear hask
          rintro e w9 ⟨rfl, T9, hs9⟩
          replace hs9 := hs.trans hs9
          go_wp2
          go_ret
          exact ⟨by first | rfl | simp, hs9.os, hs9.tape, hs9.output, hs9.size, fun k hk => hs9.block k hk (by simp)⟩

end Go.Proofs.YtockkceclkcgbaaGreatDoor

/- Taken is true for all configurations and scripts that are together of bulk at most 1048576, and leaves them as they were: the given statement TakenUptoSaid; its one condition is that bound. -/
namespace Go.Proofs.YtockkceclkcgbaaGreatDoor
open Go.ChangeShapes Go.WideShapes Go.ChangeAt Go.RowKit

set_option maxHeartbeats 1000000 in
theorem taken_any (c d : Conf) (l : List OpV) (ao : Option Addr) (cap : Nat) (w : World) (hl : ArgO w ao l) (hlen : l.length ≤ 1048576) :
    Calls Tryz.prog 4 #[.agg c.cells, .agg d.cells, .slice ao l.length cap] w fun e w' => e = .returned (.bool true) ∧ Below w.heap.size w w' := by
  have hb : Below w.heap.size w ((w.alloc (.cells c.cells 23)).alloc (.cells d.cells 23)) := ((Below.refl _ _).alloc (Nat.le_refl _) _).alloc (by simp) _
  have hup := upTo_any c d l ao cap _ (hl.below hb) hlen
  go_enter Tryz.func4, Tryz.ntmps4
  go_wp2_with fail
  unfold Conf.cells at hup
  refine hup.mono ?_
  clear hup
  rintro e w1 ⟨rfl, hb1⟩
  go_wp2
  go_ret
  exact ⟨by first | rfl | simp, hb.trans (hb1.mono (by simp; omega))⟩

set_option maxRecDepth 100000 in
theorem taken_contract (H : Type) (enc : TypeId × Value → H) (W : World) (base : Nat) (args : Array Value) (ds gs : List (DataW H)) (before : List MemPlace)
    (hval : ∀ (j : Nat) t v, Tryz.f4.params[j]? = some t → args[j]? = some v → Value.okWide Tryz.prog W .any base t v)
    (hW : DataW.Whole enc Tryz.prog Tryz.f4.params.toList Rows.takenSpec.vars false W args.toList ds gs before)
    (hk : Rows.uptoSmall H (ds ++ gs) = true) :
    Calls Tryz.prog 4 args W fun e W' => ∃ v, e = .returned v ∧ Rows.takenSpec.post enc Tryz.prog Tryz.f4 false true false false W args v W' := by
  have hW' := hW
  obtain ⟨p, q, hA0, hV, rfl, _, _⟩ := hW
  have hA : DataW.TrodAll enc Tryz.prog W 0 (fun _ => true) true Tryz.f4.params.toList args.toList ds p := hA0
  rw [Tryz.params4] at hA hval
  obtain ⟨v0, v1, v2, d0, d1, d2, p0, p1, p2, rfl, rfl, rfl, h0, h1, h2⟩ := trodAll_three hA
  obtain ⟨rfl, rfl⟩ := trodVars_none hV
  obtain ⟨a2, n2, c2, rfl⟩ := okWide_slice Tryz.underlying24 (hval 2 24 v2 rfl rfl)
  obtain ⟨c, rfl⟩ := open_conf (hval 0 23 v0 rfl rfl) h0
  obtain ⟨d, rfl⟩ := open_conf (hval 1 23 v1 rfl rfl) h1
  have h2k := h2
  obtain ⟨f2, hf2⟩ := h2
  clear hA0
  simp only [List.append_nil] at hW' hk
  have hlt : ∀ x ∈ p0 ++ p1 ++ p2, x.block < W.heap.size := fun x hx => by simpa using hW'.lt x hx
  have hlt0 : ∀ x ∈ p0, x.block < W.heap.size := fun x hx => hlt x (by simp [hx])
  have hlt1 : ∀ x ∈ p1, x.block < W.heap.size := fun x hx => hlt x (by simp [hx])
  have hlt2 : ∀ x ∈ p2, x.block < W.heap.size := fun x hx => hlt x (by simp [hx])
  obtain ⟨l, rfl, hL, hd⟩ := open_ops rfl hf2
  have hbulk : Rows.uptoBulk d0 + (Rows.uptoBulk d1 + (Rows.uptoBulk d2 + 0)) ≤ 1048576 := by
    have h : Rows.uptoBulkAll [d0, d1, d2] ≤ 1048576 := of_decide_eq_true hk
    simpa only [Rows.uptoBulkAll] using h
  have hlen : l.length ≤ 1048576 := by
    rcases hd with h | ⟨xs, ys, rfl, hx⟩
    · omega
    · have := bulk_slice xs ys
      omega
  refine (taken_any c d l a2 c2 W hL hlen).mono fun e W' ⟨he, hg⟩ => ?_
  subst he
  refine ⟨_, rfl, _, _, _, [], p0 ++ (p1 ++ p2), [], hW', ?_, ?_, rfl, hg.frame _, fun h => by cases h⟩
  · exact trodAll_mk1 (shut_bool Tryz.underlying4 _)
  · exact trodAll_mk3 (Below.trod Tryz.laidOut (by kernel_rfl) (of_decide_eq_true (by kernel_rfl)) h0 hg hlt0) (Below.trod Tryz.laidOut (by kernel_rfl) (of_decide_eq_true (by kernel_rfl)) h1 hg hlt1)
      (Below.trod Tryz.laidOut (by kernel_rfl) (of_decide_eq_true (by kernel_rfl)) h2k hg hlt2)

theorem taken_reads (os : Os) {H : Type} (enc : TypeId × Value → H) : ∃ places, DataW.whole enc Tryz.prog ((laidWorld os).forCall (fun _ _ => 0) ⟨#[], #[.agg #[.int .i64 0, .int .i64 0, .int .i64 0, .int .i64 0], .agg #[.int .i64 0, .int .i64 0, .int .i64 0, .int .i64 0], .slice none 0 0], []⟩).memory Tryz.f4.params.toList Rows.takenSpec.vars false #[.agg #[.int .i64 0, .int .i64 0, .int .i64 0, .int .i64 0], .agg #[.int .i64 0, .int .i64 0, .int .i64 0, .int .i64 0], .slice none 0 0].toList 8 = some ([.agg [.lit (.int .i64 0), .lit (.int .i64 0), .lit (.int .i64 0), .lit (.int .i64 0)], .agg [.lit (.int .i64 0), .lit (.int .i64 0), .lit (.int .i64 0), .lit (.int .i64 0)], .nil], [], places) :=
  ⟨[], by kernel_rfl⟩
theorem taken_laid : Rows.takenUptoRow.laid = laidL := rfl

set_option maxRecDepth 100000 in
theorem taken_lifted (os : Os) (started : os.Started) (H : Type) (enc : TypeId × Value → H) (F : Stop.Interp) :
    ReturnsInHanded {} Tryz.checked os 4 .any ((Rows.OpenSpec.upto Rows.takenSpec).preRow enc Tryz.prog Tryz.f4 Rows.takenUptoRow.domain false Rows.takenUptoRow.laid) (((Rows.OpenSpec.upto Rows.takenSpec).at F).post enc Tryz.prog Tryz.f4 false true false false) := by
  obtain ⟨places, hx⟩ := taken_reads os enc
  refine returnsInHanded_of_row (C := Tryz.checked) (s := Rows.OpenSpec.upto Rows.takenSpec) Tryz.own started (by kernel_rfl) Tryz.func4
    (witness_row_at (enc := enc) (C := Tryz.checked) false (laidWorld os) #[.agg #[.int .i64 0, .int .i64 0, .int .i64 0, .int .i64 0], .agg #[.int .i64 0, .int .i64 0, .int .i64 0, .int .i64 0], .slice none 0 0] rfl (by kernel_rfl) (by kernel_rfl) (by kernel_rfl)
      (OpenSpec.preRow_of_cond 8 hx (by kernel_rfl) (fun k hk => by cases hk; kernel_rfl) (by kernel_rfl) (laid_met os _))) ?_
  intro W base args ds gs before hval hW _ hcond _ _ _ _
  exact taken_contract H enc W base args ds gs before hval hW (hcond _ rfl)

theorem taken_row : Rows.TakenUptoSaid :=
  OpenClaim.holds_of_cond 4 Tryz.f4 rfl rfl rfl rfl rfl rfl rfl ⟨rfl, rfl, rfl, rfl, rfl⟩ rfl rfl rfl rfl rfl (by kernel_rfl) Tryz.func4 (by kernel_rfl)
    (of_decide_eq_true (by kernel_rfl)) (by unfold Func.isWrapper; first | (rw [if_pos (by decide +kernel)]; kernel_rfl) | (rw [if_neg (by decide +kernel)]; exact ⟨rfl, rfl⟩))
    (fun os started H enc _ F => by rw [OpenClaim.pre_eq_preRow]; exact taken_lifted os started H enc F)

theorem taken_holds : Rows.TakenUptoCardSaid :=
  Claim7.holds_tied_plain_at .later [] [.sentinel, .sentinel] true Rows.takenUptoCard.stood.harness true
    taken_row (fun _ h => by cases h) (by kernel_rfl) (fun _ h => by cases h) takenUpto_row_tie rfl ⟨rfl, rfl⟩ (by kernel_rfl) rfl
    (fun f fn hf hfn => by
      obtain rfl : f = 4 := Option.some.inj ((show Tryz.prog.funcNamed "quay/quaylaw.Taken" = some 4 by kernel_rfl).symm.trans hf) |>.symm
      obtain rfl : fn = Tryz.f4 := (Option.some.inj (Tryz.func4.symm.trans hfn)).symm
      exact ⟨by kernel_rfl, fun j t ht => by
        rw [Tryz.params4] at ht
        rcases j with _ | _ | _ | j
        · obtain rfl : t = 23 := by simpa using ht.symm
          kernel_rfl
        · obtain rfl : t = 23 := by simpa using ht.symm
          kernel_rfl
        · obtain rfl : t = 24 := by simpa using ht.symm
          kernel_rfl
        · simp at ht⟩)
    (by kernel_rfl)

#print axioms taken_holds

end Go.Proofs.YtockkceclkcgbaaGreatDoor

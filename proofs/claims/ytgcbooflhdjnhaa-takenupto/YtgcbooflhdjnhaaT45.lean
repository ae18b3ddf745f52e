/- UpTo, walked: it returns -1, and changes nothing that was there. -/
import Derived.Test.YtgcbooflhdjnhaaT44
import Derived.Test.YtgcbooflhdjnhaaT43
namespace Go.Proofs.Ytgcbooflhdjnhaa
open Go.RowKit

/-- the world with which UpTo begins its first steps -/
theorem upTo_start (c d : Conf) (w : World) : ∃ w4 T4, w4 = (((w.alloc (.cells c.cells 44)).alloc (.cells d.cells 44)).alloc (.cells #[.int .i64 10, .int .i64 2, .int .i64 2, .int .i64 5, .int .i64 0, .int .i64 0, .int .i64 0, .int .i64 0, .slice none 0 0, .slice none 0 0, .slice none 0 0, .int .i64 12] 50)).alloc (.cells #[.int .i64 1, .int .i64 0, .string ⟨#[]⟩, .string ⟨#[]⟩, .int .i64 0, .int .i64 0, .int .i64 0, .bool false, .int .i64 2, .int .i64 0, .string ⟨#[]⟩, .string ⟨#[97]⟩, .int .i64 0, .int .i64 0, .int .i64 0, .bool false, .int .i64 3, .int .i64 0, .string ⟨#[103]⟩, .string ⟨#[]⟩, .int .i64 0, .int .i64 0, .int .i64 0, .bool false, .int .i64 4, .int .i64 0, .string ⟨#[103]⟩, .string ⟨#[]⟩, .int .i64 9, .int .i64 0, .int .i64 0, .bool false, .int .i64 5, .int .i64 0, .string ⟨#[103]⟩, .string ⟨#[]⟩, .int .i64 0, .int .i64 0, .int .i64 0, .bool false, .int .i64 9, .int .i64 0, .string ⟨#[103]⟩, .string ⟨#[]⟩, .int .i64 0, .int .i64 0, .int .i64 0, .bool false] 61) ∧ Step (fun t => t ≠ .old) w (fun _ => .old) w4 T4 ∧
    WT X 0 w4 T4 (w.heap.size + 1 + 1) conf0 confZ 12 [] 0 0 ∧ Blk w4 T4 .old w.heap.size c.cells 44 ∧ Blk w4 T4 .old (w.heap.size + 1) d.cells 44 ∧
    ArgO w4 (some ⟨w.heap.size + 1 + 1 + 1, 0, none⟩) firstOps ∧ T4 (w.heap.size + 1 + 1 + 1) = .old := by
  obtain ⟨T1, f1, hw1, hc1, hd1⟩ := law_start c d 12 w
  have e3 : ((w.alloc (.cells c.cells 44)).alloc (.cells d.cells 44)).alloc (.cells (wtCells conf0 confZ (.slice none 0 0) (.slice none 0 0) (.slice none 0 0) 12) 50) = ((w.alloc (.cells c.cells 44)).alloc (.cells d.cells 44)).alloc (.cells #[.int .i64 10, .int .i64 2, .int .i64 2, .int .i64 5, .int .i64 0, .int .i64 0, .int .i64 0, .int .i64 0, .slice none 0 0, .slice none 0 0, .slice none 0 0, .int .i64 12] 50) := rfl
  rw [e3] at f1 hw1 hc1 hd1
  clear e3
  have s3 : (((w.alloc (.cells c.cells 44)).alloc (.cells d.cells 44)).alloc (.cells #[.int .i64 10, .int .i64 2, .int .i64 2, .int .i64 5, .int .i64 0, .int .i64 0, .int .i64 0, .int .i64 0, .slice none 0 0, .slice none 0 0, .slice none 0 0, .int .i64 12] 50)).heap.size = w.heap.size + 1 + 1 + 1 := by simp
  generalize ((w.alloc (.cells c.cells 44)).alloc (.cells d.cells 44)).alloc (.cells #[.int .i64 10, .int .i64 2, .int .i64 2, .int .i64 5, .int .i64 0, .int .i64 0, .int .i64 0, .int .i64 0, .slice none 0 0, .slice none 0 0, .slice none 0 0, .int .i64 12] 50) = w3 at *
  have e4 : (#[.int .i64 1, .int .i64 0, .string ⟨#[]⟩, .string ⟨#[]⟩, .int .i64 0, .int .i64 0, .int .i64 0, .bool false, .int .i64 2, .int .i64 0, .string ⟨#[]⟩, .string ⟨#[97]⟩, .int .i64 0, .int .i64 0, .int .i64 0, .bool false, .int .i64 3, .int .i64 0, .string ⟨#[103]⟩, .string ⟨#[]⟩, .int .i64 0, .int .i64 0, .int .i64 0, .bool false, .int .i64 4, .int .i64 0, .string ⟨#[103]⟩, .string ⟨#[]⟩, .int .i64 9, .int .i64 0, .int .i64 0, .bool false, .int .i64 5, .int .i64 0, .string ⟨#[103]⟩, .string ⟨#[]⟩, .int .i64 0, .int .i64 0, .int .i64 0, .bool false, .int .i64 9, .int .i64 0, .string ⟨#[103]⟩, .string ⟨#[]⟩, .int .i64 0, .int .i64 0, .int .i64 0, .bool false] : Array Value) = (opsCells firstOps).toArray := rfl
  rw [e4]
  have a4 := step_new w3 T1 (.cells (opsCells firstOps).toArray 61) .old (fun _ => False)
  have b4 := first_arg w3
  have r4 := retag_same T1 w3.heap.size .old
  refine ⟨_, _, rfl, (f1.trans a4).mono (fun _ h => h.elim), hw1.step (xc 0 (by decide)) a4 (fun _ h => h), hc1.step a4 (fun h => h), hd1.step a4 (fun h => h), ?_, ?_⟩
  · rw [← s3]; exact b4
  · rw [← s3]; exact r4

set_option maxRecDepth 100000 in
set_option maxHeartbeats 8000000 in
theorem upTo_any (c d : Conf) (l : List OpV) (ao : Option Addr) (cap : Nat) (w : World) (hl : ArgO w ao l) (hlen : l.length ≤ 1048576) :
    Calls Try.prog 22 #[.agg c.cells, .agg d.cells, .slice ao l.length cap, .int .i64 12] w fun e w' => e = .returned (.int .i64 (-1)) ∧ Below w.heap.size w w' := by
  have hX := xc 3000000000000 (by decide)
  obtain ⟨w4, T4, e4, f4, hw4, hc4, hd4, hA4, hT4⟩ := upTo_start c d w
  go_enter Try.func22, Try.ntmps22
  go_wp2_with fail
  rw [← e4]
  clear e4
  generalize w.heap.size + 1 + 1 + 1 = fb at *
  generalize w.heap.size + 1 + 1 = wb at *
  generalize hdb : w.heap.size + 1 = db at *
  generalize hcb : w.heap.size = cb at hc4 ⊢
  go_loopw [11] (fun x wr => ∃ (k : Nat) (T' : Nat → Tag) (qs : List Nat) (q1 q1' : Nat), k ≤ 6 ∧ x = .int .i64 k ∧ Step (fun t => t ≠ .old) w4 T4 wr T' ∧ WT X (60000 * (k : Int)) wr T' wb conf0 confZ 12 qs q1 q1' ∧ (k = 0 ∨ 0 < qs.length) ∧ qs.length ≤ k ∧ q1 ≤ 2 * k ∧ q1' ≤ 2 * k) (fun x _ => 6 - (intOf x).toNat)
  case atStart => exact ⟨0, T4, [], 0, 0, Nat.zero_le _, rfl, Step.refl _ _ _, hw4, .inl rfl, Nat.zero_le _, Nat.zero_le _, Nat.zero_le _⟩
  case round =>
    obtain ⟨k, T', qs, q1, q1', hk, rfl, hs, hw, hp, hq, g1, g1'⟩ := hrel
    by_cases hlt : k < 6
    · obtain ⟨o, ho⟩ : ∃ o, firstOps[k]? = some o := ⟨_, List.getElem?_eq_getElem (by exact hlt)⟩
      obtain ⟨h1, h2, ob, off, e, hob, hcl⟩ := hA4 k o ho
      simp only [Option.some.injEq, Addr.mk.injEq] at e
      obtain ⟨rfl, rfl, _⟩ := e
      have q0 := (hs.cell (p := ⟨fb, 0 + k * 8 + 0, none⟩) hob (by simp [hT4])).trans (hcl 0 _ rfl)
      have q1 := (hs.cell (p := ⟨fb, 0 + k * 8 + 1, none⟩) hob (by simp [hT4])).trans (hcl 1 _ rfl)
      have q2 := (hs.cell (p := ⟨fb, 0 + k * 8 + 2, none⟩) hob (by simp [hT4])).trans (hcl 2 _ rfl)
      have q3 := (hs.cell (p := ⟨fb, 0 + k * 8 + 3, none⟩) hob (by simp [hT4])).trans (hcl 3 _ rfl)
      have q4 := (hs.cell (p := ⟨fb, 0 + k * 8 + 4, none⟩) hob (by simp [hT4])).trans (hcl 4 _ rfl)
      have q5 := (hs.cell (p := ⟨fb, 0 + k * 8 + 5, none⟩) hob (by simp [hT4])).trans (hcl 5 _ rfl)
      have q6 := (hs.cell (p := ⟨fb, 0 + k * 8 + 6, none⟩) hob (by simp [hT4])).trans (hcl 6 _ rfl)
      have q7 := (hs.cell (p := ⟨fb, 0 + k * 8 + 7, none⟩) hob (by simp [hT4])).trans (hcl 7 _ rfl)
      rw [Nat.add_zero] at q0
      simp only [List.getElem_toArray, List.getElem_cons_succ, List.getElem_cons_zero, Nat.zero_add] at q0 q1 q2 q3 q4 q5 q6 q7
      have hpos : 0 < qs.length ∨ (o.kind = 1 ∧ goodC (selC o.n conf0 confZ) = true) := by
        rcases hp with rfl | hp
        · right
          simp only [firstOps, List.getElem?_cons_zero, Option.some.injEq] at ho
          subst ho
          exact ⟨rfl, by decide⟩
        · exact .inl hp
      have hst := step_pos (B := 60000 * (k : Int)) (by omega) (by omega) wb conf0 confZ 12 (by decide) qs _ _ o.kind o.qu o.nm o.bd o.n o.tr o.ms o.yes wr T' hw h2 h1 hpos (by omega) (by omega) (by omega)
      clear hl hcl hA4 hw hp hpos ho hc4 hd4 f4 hT4 hw4
      go_wp2_with fail
      unfold opCells at hst
      refine hst.mono ?_
      clear hst
      rintro e w9 ⟨rfl, T9, qs9, q9, q9', hs9, hw9, a9, b9, g9, g9'⟩
      go_wp2
      refine ⟨⟨k + 1, T9, qs9, q9, q9', by omega, by simp, hs.trans hs9, by rw [show (60000 : Int) * ((k + 1 : Nat) : Int) = 60000 * (k : Int) + 60000 by omega]; exact hw9, .inr a9, by omega, by omega, by omega⟩, by simp [intOf]; omega⟩
    · have hk6 : k = 6 := by omega
      subst hk6
      replace hp : 0 < qs.length := by omega
      have hc5 := hc4.step hs (by simp)
      have hd5 := hd4.step hs (by simp)
      replace f4 := f4.trans hs
      clear hA4 hc4 hd4 hT4 hw4 hs hlt hk
      have hw' : WT X 360000 wr T' wb conf0 confZ 12 qs q1 q1' := hw
      clear hw
      -- the caller's two configurations
      obtain ⟨hw5, hs5⟩ := hw'.conf0 hX c
      obtain ⟨⟨vP4, vr4, vd4, hB4, _, _, _⟩, _⟩ := hw'
      have e0 := hB4.cell (j := 0) rfl
      have e1 := hB4.cell (j := 1) rfl
      have e2 := hB4.cell (j := 2) rfl
      have e3 := hB4.cell (j := 3) rfl
      have z0 := hB4.frozen 0
      have z1 := hB4.frozen 1
      have z2 := hB4.frozen 2
      have z3 := hB4.frozen 3
      have g0 := hc5.cell (j := 0) rfl
      have g1 := hc5.cell (j := 1) rfl
      have g2 := hc5.cell (j := 2) rfl
      have g3 := hc5.cell (j := 3) rfl
      simp only [List.getElem_toArray, List.getElem_cons_succ, List.getElem_cons_zero] at e0 e1 e2 e3 g0 g1 g2 g3
      go_wp2_with fail
      go_region
      have hw5d := hw5.step hX (step_below (fun _ => False) T' (Below.refl _ _).drew) (fun _ h => h)
      have hs5d := hs5.trans (step_below (fun t => t = .world) T' (Below.refl _ _).drew)
      replace hd5 := hd5.step hs5d (by simp)
      have f5 := f4.trans (notOld_world hs5d (by simp))
      clear hw5 hs5 hs5d hB4 e0 e1 e2 e3 z0 z1 z2 z3 g0 g1 g2 g3 hc5 f4
      generalize ((((wr.setCell ⟨wb, 0, none⟩ (.int .i64 c.l)).setCell ⟨wb, 1, none⟩ (.int .i64 c.d)).setCell ⟨wb, 2, none⟩ (.int .i64 c.s)).setCell ⟨wb, 3, none⟩ (.int .i64 c.k)).drew = w5 at *
      obtain ⟨hw6, hs6⟩ := hw5d.conf1 hX d
      obtain ⟨⟨vP5, vr5, vd5, hB5, _, _, _⟩, _⟩ := hw5d
      have e4 := hB5.cell (j := 4) rfl
      have e5 := hB5.cell (j := 5) rfl
      have e6 := hB5.cell (j := 6) rfl
      have e7 := hB5.cell (j := 7) rfl
      have z4 := hB5.frozen 4
      have z5 := hB5.frozen 5
      have z6 := hB5.frozen 6
      have z7 := hB5.frozen 7
      have g0 := hd5.cell (j := 0) rfl
      have g1 := hd5.cell (j := 1) rfl
      have g2 := hd5.cell (j := 2) rfl
      have g3 := hd5.cell (j := 3) rfl
      simp only [List.getElem_toArray, List.getElem_cons_succ, List.getElem_cons_zero] at e4 e5 e6 e7 g0 g1 g2 g3
      go_wp2_with fail
      go_region
      have hw6d := hw6.step hX (step_below (fun _ => False) T' (Below.refl _ _).drew) (fun _ h => h)
      have hs6d := hs6.trans (step_below (fun t => t = .world) T' (Below.refl _ _).drew)
      have f6 := f5.trans (notOld_world hs6d (by simp))
      clear hw6 hs6 hs6d hB5 e4 e5 e6 e7 z4 z5 z6 z7 g0 g1 g2 g3 hd5 f5
      generalize ((((w5.setCell ⟨wb, 4, none⟩ (.int .i64 d.l)).setCell ⟨wb, 5, none⟩ (.int .i64 d.d)).setCell ⟨wb, 6, none⟩ (.int .i64 d.s)).setCell ⟨wb, 7, none⟩ (.int .i64 d.k)).drew = w6 at *
      clear hcb hdb
      go_wp2_with fail
      go_loopw [13] (fun x wx => ∃ (k : Nat) (Tx : Nat → Tag) (rs : List Nat) (r r' : Nat), k ≤ l.length ∧ x = .int .i64 k ∧ Step (fun t => t ≠ .old) w (fun _ => .old) wx Tx ∧ WT X (60000 * ((k : Int) + 6)) wx Tx wb c d 12 rs r r' ∧ 0 < rs.length ∧ rs.length ≤ k + 6 ∧ r ≤ 2 * (k + 6) ∧ r' ≤ 2 * (k + 6)) (fun x _ => l.length - (intOf x).toNat)
      case atStart => exact ⟨0, T', qs, q1, q1', Nat.zero_le _, rfl, f6, hw6d, hp, by omega, by omega, by omega⟩
      case round =>
        obtain ⟨k, Tx, rs, r, r', hk, rfl, hs, hw, hpx, hqx, gx, gx'⟩ := hrel
        clear hw6d f6 hp hq g1 g1'
        by_cases hlt : k < l.length
        · obtain ⟨o, ho⟩ : ∃ o, l[k]? = some o := ⟨_, List.getElem?_eq_getElem hlt⟩
          obtain ⟨h1, h2, ob, off, rfl, hob, hcl⟩ := hl k o ho
          have q0 := (hs.cell (p := ⟨ob, off + k * 8 + 0, none⟩) hob (by simp)).trans (hcl 0 _ rfl)
          have q1 := (hs.cell (p := ⟨ob, off + k * 8 + 1, none⟩) hob (by simp)).trans (hcl 1 _ rfl)
          have q2 := (hs.cell (p := ⟨ob, off + k * 8 + 2, none⟩) hob (by simp)).trans (hcl 2 _ rfl)
          have q3 := (hs.cell (p := ⟨ob, off + k * 8 + 3, none⟩) hob (by simp)).trans (hcl 3 _ rfl)
          have q4 := (hs.cell (p := ⟨ob, off + k * 8 + 4, none⟩) hob (by simp)).trans (hcl 4 _ rfl)
          have q5 := (hs.cell (p := ⟨ob, off + k * 8 + 5, none⟩) hob (by simp)).trans (hcl 5 _ rfl)
          have q6 := (hs.cell (p := ⟨ob, off + k * 8 + 6, none⟩) hob (by simp)).trans (hcl 6 _ rfl)
          have q7 := (hs.cell (p := ⟨ob, off + k * 8 + 7, none⟩) hob (by simp)).trans (hcl 7 _ rfl)
          rw [Nat.add_zero] at q0
          simp only [List.getElem_toArray, List.getElem_cons_succ, List.getElem_cons_zero] at q0 q1 q2 q3 q4 q5 q6 q7
          have hst := step_pos (B := 60000 * ((k : Int) + 6)) (by omega) (by omega) wb c d 12 (by decide) rs _ _ o.kind o.qu o.nm o.bd o.n o.tr o.ms o.yes wr Tx hw h2 h1 (.inl hpx) (by omega) (by omega) (by omega)
          clear hl hcl hw ho
          go_wp2_with fail
          unfold opCells at hst
          refine hst.mono ?_
          clear hst
          rintro e w9 ⟨rfl, T9, qs9, q9, q9', hs9, hw9, a9, b9, g9, g9'⟩
          have lw9 : wb < w9.heap.size := hw9.see.choose_spec.choose_spec.1
          clear q0 q1 q2 q3 q4 q5 q6 q7
          go_wp2_with fail
          refine (wholeW wb c d 12 qs9 q9 q9' _ T9 hw9 (by omega) (by omega)).mono ?_
          rintro e wz ⟨rfl, hbz⟩
          have hsz := step_below (fun _ => False) T9 hbz
          have hwz := hw9.step hX hsz (fun _ h => h)
          go_wp2
          refine ⟨?_, ?_⟩
          · refine ⟨_, _, _, _, _, _, _, _, _, _, _, _, _, _, _, _, _, _, _, _, _, _, _, _, _, _, _, ⟨k + 1, T9, qs9, q9, q9', ?_, ?_, ?_, ?_, ?_, ?_, ?_, ?_⟩, rfl⟩
            · omega
            · simp
            · exact (hs.trans hs9).trans (hsz.mono (fun _ h => h.elim))
            · rw [show (60000 : Int) * (((k + 1 : Nat) : Int) + 6) = 60000 * ((k : Int) + 6) + 60000 by omega]; exact hwz
            · exact a9
            · omega
            · omega
            · omega
          · simp [intOf]; omega
        · have hask := asked_any hX (B := 60000 * ((k : Int) + 6)) (by omega) wb c d 12 rs r r' wr Tx hw (by omega) (by omega) (by omega)
          clear hl hw
          go_wp2_with fail
          refine hask.mono ?_
          clear hask
          rintro e w9 ⟨rfl, T9, hs9⟩
          replace hs9 := hs.trans hs9
          go_wp2
          go_ret
          exact ⟨by first | rfl | simp, hs9.os, hs9.tape, hs9.output, hs9.size, fun k hk => hs9.block k hk (by simp)⟩

end Go.Proofs.Ytgcbooflhdjnhaa

/- Contracts of the program's deliver and bury. -/
import Derived.Test.YtgcbooflhdjnhaaT24
namespace Go.Proofs.Ytgcbooflhdjnhaa
open Go.RowKit Go.Maps

theorem nSG {i k r j : Nat} (h : r < 3) : ¬ SG i k (.q i r j) := by
  rintro ⟨x, hx, e⟩
  have : r = x := by simpa using congrArg Tag.r e
  omega
/-- a new block is written -/
theorem Step.setNew {S : Tag → Prop} {w w1 : World} {T T1 : Nat → Tag} (h : Step S w T w1 T1) {c : Nat} (hc : w.heap.size ≤ c) (j : Nat) (v : Value) : Step S w T (w1.setCell ⟨c, j, none⟩ v) T1 := by
  have k := kept_setCell w1 ⟨c, j, none⟩ v
  exact ⟨k.os.trans h.os, k.tape.trans h.tape, k.output.trans h.output, Nat.le_trans h.size k.size, h.tag, fun i hi hS => (k.block i (Nat.lt_of_lt_of_le hi h.size) (fun e => by have e2 : i = c := e; omega)).trans (h.block i hi hS)⟩
theorem nSGf {i k : Nat} : ¬ SG i k .free := by simp [SG]
theorem nSGk {i k r j : Nat} (h : j ≠ k) : ¬ SG i k (.q i r j) := by
  rintro ⟨x, hx, e⟩
  exact h (by simpa using congrArg Tag.k e)

set_option maxRecDepth 100000 in
set_option maxHeartbeats 1000000 in
theorem deliver_any (i k b gb : Nat) (m : MQ) (p : PG) (n : Nat) (s : ByteArray) (vB vM : Value) (w : World) (T : Nat → Tag)
    (hB : Blk w T (.q i 0 0) b #[.int .i64 m.c.l, .int .i64 m.c.d, .int .i64 m.c.s, .int .i64 m.c.k, .int .i64 m.time, .int .i64 m.floor, vB, vM] 105) (hS : Sub w T (.q i 1 0) vB ((m.bodies.drop m.floor.toNat).map .string))
    (hG : GM w T i k gb p) (hsm : m.bodies.length ≤ 400) (h0 : 0 ≤ m.floor) (hn0 : m.floor ≤ n) (hs : m.bodies[n]? = some s) (ht0 : 0 ≤ m.time) (ht1 : m.time ≤ 4000000000000000000) (hl0 : 1 ≤ m.c.l) (hl1 : m.c.l ≤ 60000) :
    Calls Try.prog 100 #[.pointer (some ⟨b, 0, none⟩), .pointer (some ⟨gb, 0, none⟩), .int .i64 n] w fun e w' => e = .returned (.agg #[.int .i64 n, .int .i64 (wrap64 (p.tr n + 1)), .string s]) ∧
      ∃ T', Step (SG i k) w T w' T' ∧ GM w' T' i k gb (leaseP (countP p n) n (m.time + m.c.l)) := by
  have hnl := (List.getElem?_eq_some_iff.1 hs).1
  have hn : n < 400 := by omega
  have hi64 : i64 (n : Int) := ⟨by omega, by omega⟩
  have hwr : IntKind.i64.wrap (m.time + m.c.l) = m.time + m.c.l := by rw [IntWalk.i64_left, IntWalk.wrap64_in _ ⟨by omega, by omega⟩]
  have a1 := step_new w T (.cells #[.int .i64 0, .int .i64 0, .string ⟨#[]⟩] 89) .free (fun _ => False)
  have hO := blk_new w T #[.int .i64 0, .int .i64 0, .string ⟨#[]⟩] 89 .free
  have hB1 := hB.step a1 (fun h => h)
  have hS1 := hS.step a1 (fun h => h)
  obtain ⟨vD, vE, tb, wb, hBg, hD, hE, hT, hW⟩ := hG.step a1 (fun _ _ h => h)
  have lg := hBg.lt
  have d3 := hBg.cell (j := 3) rfl
  simp only [List.getElem_toArray, List.getElem_cons_succ, List.getElem_cons_zero] at d3
  clear hB hS hG
  go_enter Try.func100, Try.ntmps100
  generalize hTT : retag T w.heap.size .free = T1 at *
  have lkT := hT.look hi64
  go_wp2_with (first
    | (at_mapUpdate; refine wpList_store_try rfl _ _ _ rfl tb _ rfl hT n hn rfl (wrap64 (p.tr n + 1)) (wrap64_wf _) (by first | rfl | simp [Act.eval]) ?_; intro w2 hT2 hs2)
    | go_in)
  have hG2 : GM w2 T1 i k gb (countP p n) := ⟨vD, vE, tb, wb, hBg.step hs2 (by simp), hD.step hs2 (by simp), hE.step hs2 (by simp), hT2, hW.step hs2 (by simp)⟩
  have f2 : Step (SG i k) w T w2 T1 := (a1.mono (fun _ h => h.elim)).trans (hs2.mono (fun t ht => ⟨6, by decide, ht⟩))
  have hB2 := hB1.step hs2 (by simp)
  have hS2 := hS1.step hs2 (by simp)
  have hO2 := hO.step hs2 (by simp)
  clear hBg hD hE hT hW hT2 hs2 lkT d3 lg hO hB1 hS1 a1
  generalize hzz : w.heap.size = wz at *
  clear hTT
  have lb := hB2.lt
  have lg := hG2.lt
  have c4 := hB2.cell (j := 4) rfl
  have c0 := hB2.cell (j := 0) rfl
  simp only [List.getElem_toArray, List.getElem_cons_succ, List.getElem_cons_zero] at c4 c0
  have hdr := step_below (fun _ => False) T1 (Below.refl w2.heap.size w2).drew
  go_region_held3 (fun w' => w'.cell? ⟨b, 4, none⟩ = some (.int .i64 m.time) ∧ w'.cell? ⟨b, 0, none⟩ = some (.int .i64 m.c.l)) (go_keep) (first | (go_at_call 106; refine (lease_any i k gb (countP p n) n (m.time + m.c.l) _ T1 (hG2.step hdr (fun _ _ h => h)) hn).mono ?_; rintro e w3 ⟨rfl, T3, hs3, hG3⟩; have k4 := ((hB2.step hdr (fun h => h)).step hs3 (nSG (by decide))).cell (j := 4) rfl; have k0 := ((hB2.step hdr (fun h => h)).step hs3 (nSG (by decide))).cell (j := 0) rfl; simp only [List.getElem_toArray, List.getElem_cons_succ, List.getElem_cons_zero] at k4 k0))
  have hs23 : Step (SG i k) w2 T1 w3 T3 := (hdr.mono (fun _ h => h.elim)).trans hs3
  have hB3 := hB2.step hs23 (nSG (by decide))
  have hS3 := hS2.step hs23 (nSG (by decide))
  have hO3 := hO2.step hs23 nSGf
  have c5 := hB3.cell (j := 5) rfl
  have c6 := hB3.cell (j := 6) rfl
  simp only [List.getElem_toArray, List.getElem_cons_succ, List.getElem_cons_zero] at c5 c6
  have hj : ((m.bodies.drop m.floor.toNat).map Value.string)[n - m.floor.toNat]? = some (.string s) := by
    rw [List.getElem?_map, List.getElem?_drop, show m.floor.toNat + (n - m.floor.toNat) = n by omega, hs]
    rfl
  have lb3 := hB3.lt
  clear c4 c0 k4 k0 lb lg hB2 hS2 hG2 hO2
  go_wp2_with fail
  refine (delivery_any i k b gb _ n m.floor vB _ s (n - m.floor.toNat) w3 T3 hG3 lb3 c5 c6 hS3 hj (by omega) hn (by simp; omega)).mono ?_
  rintro e w4 ⟨rfl, hb4⟩
  have g4 := step_below (fun _ => False) T3 hb4
  have hO4 := hO3.step g4 (fun h => h)
  have lo := hO4.lt
  have o0 := hO4.cell (j := 0) rfl
  have o1 := hO4.cell (j := 1) rfl
  have o2 := hO4.cell (j := 2) rfl
  have z0 := hO4.frozen 0
  have z1 := hO4.frozen 1
  have z2 := hO4.frozen 2
  simp only [List.getElem_toArray, List.getElem_cons_succ, List.getElem_cons_zero] at o0 o1 o2
  have etr : (leaseP (countP p n) n (m.time + m.c.l)).tr n = wrap64 (p.tr n + 1) := by simp [leaseP, countP, upd]
  rw [etr]
  have hs5 : Step (fun t => t = .free) w4 T3 (((w4.setCell ⟨wz, 0, none⟩ (.int .i64 n)).setCell ⟨wz, 1, none⟩ (.int .i64 (wrap64 (p.tr n + 1)))).setCell ⟨wz, 2, none⟩ (.string s)) T3 :=
    ((step_setCell w4 T3 wz 0 _ (S := fun t => t = .free) hO4.1).trans (step_setCell _ T3 wz 1 _ (S := fun t => t = .free) hO4.1)).trans (step_setCell _ T3 wz 2 _ (S := fun t => t = .free) hO4.1)
  have hO5 := ((hO4.set 0 (.int .i64 n)).set 1 (.int .i64 (wrap64 (p.tr n + 1)))).set 2 (.string s)
  have r0 := hO5.cell (j := 0) (v := .int .i64 n) (by simp)
  have r1 := hO5.cell (j := 1) (v := .int .i64 (wrap64 (p.tr n + 1))) (by simp)
  have r2 := hO5.cell (j := 2) (v := .string s) (by simp)
  go_wp2
  refine bodyPost_ret (v := .agg #[.int .i64 n, .int .i64 (wrap64 (p.tr n + 1)), .string s]) ?_ rfl ⟨rfl, T3, ?_, (hG3.step g4 (fun _ _ h => h)).step hs5 (by simp)⟩
  · simp [results, Try.results100, go_sem, r0, r1, r2]
  · exact (((f2.trans (hs23.trans (g4.mono (fun _ h => h.elim)))).setNew (by omega) _ _).setNew (by omega) _ _).setNew (by omega) _ _

theorem info71d : (Try.prog.info? 89).map (fun i => (i.zero, i.size, i.bytes)) = some (some (.agg #[.int .i64 0, .int .i64 0, .string ⟨#[]⟩]), 3, 32) := by kernel_rfl

/-- delivery, and what its answer is when it is appended to the dead -/
theorem delivery_dead (i k b gb : Nat) (m : MQ) (p : PG) (n : Nat) (s : ByteArray) (vB vM : Value) (w : World) (T : Nat → Tag) (eo : Option Addr) (ecap : Nat) (vD : Value) (tb wb : Nat)
    (hB : Blk w T (.q i 0 0) b #[.int .i64 m.c.l, .int .i64 m.c.d, .int .i64 m.c.s, .int .i64 m.c.k, .int .i64 m.time, .int .i64 m.floor, vB, vM] 105) (hS : Sub w T (.q i 1 0) vB ((m.bodies.drop m.floor.toNat).map .string))
    (hBg : Blk w T (.q i 3 k) gb #[.int .i64 p.start, vD, .slice eo p.dead.length ecap, .map (some tb), .map (some wb)] 131) (hD : Row w T (.q i 4 k) 31 2 vD p.done.length (flat p.done))
    (hE : Row w T (.q i 5 k) 89 3 (.slice eo p.dead.length ecap) p.dead.length (dlVals p.dead)) (hT : TM w T (.q i 6 k) tb p.tr) (hW : WM w T (.q i 7 k) wb p.wt)
    (hsm : m.bodies.length ≤ 400) (h0 : 0 ≤ m.floor) (hn0 : m.floor ≤ n) (hs : m.bodies[n]? = some s) (hdl : p.dead.length ≤ 4000) :
    Calls Try.prog 109 #[.pointer (some ⟨b, 0, none⟩), .pointer (some ⟨gb, 0, none⟩), .int .i64 n] w.drew fun e w5 => ∃ g6 cap6 w6 T6, e = .returned (.agg #[.int .i64 n, .int .i64 (p.tr n), .string s]) ∧
      (Builtin.append_ #[87, 87] 87 #[.slice eo p.dead.length ecap, .slice (some ⟨w5.heap.size, 0, none⟩) 1 1]).run Try.prog (w5.alloc (.cells #[.int .i64 n, .int .i64 (p.tr n), .string s] 89)) = .ok (.slice (some ⟨g6, 0, none⟩) (p.dead.length + 1) cap6) w6 ∧
      gb < w5.heap.size ∧ w5.cell? ⟨gb, 2, none⟩ = some (.slice eo p.dead.length ecap) ∧ w6.cell? ⟨gb, 2, none⟩ = some (.slice eo p.dead.length ecap) ∧ w6.frozen? ⟨gb, 2, none⟩ = false ∧
      Step (SG i k) w T (w6.setCell ⟨gb, 2, none⟩ (.slice (some ⟨g6, 0, none⟩) (p.dead.length + 1) cap6)) T6 ∧ GM (w6.setCell ⟨gb, 2, none⟩ (.slice (some ⟨g6, 0, none⟩) (p.dead.length + 1) cap6)) T6 i k gb (buryP p ⟨n, p.tr n, s⟩) := by
  have hnl := (List.getElem?_eq_some_iff.1 hs).1
  have hdr := step_below (fun _ => False) T (Below.refl w.heap.size w).drew
  have hG : GM w T i k gb p := ⟨vD, _, tb, wb, hBg, hD, hE, hT, hW⟩
  have hj : ((m.bodies.drop m.floor.toNat).map Value.string)[n - m.floor.toNat]? = some (.string s) := by
    rw [List.getElem?_map, List.getElem?_drop, show m.floor.toNat + (n - m.floor.toNat) = n by omega, hs]
    rfl
  have hBd := hB.step hdr (fun h => h)
  refine (delivery_any i k b gb p n m.floor vB _ s (n - m.floor.toNat) w.drew T (hG.step hdr (fun _ _ h => h)) hBd.lt (hBd.cell (j := 5) rfl) (hBd.cell (j := 6) rfl) (hS.step hdr (fun h => h)) hj (by omega) (by omega) (by simp; omega)).mono ?_
  rintro e w5 ⟨rfl, hb5⟩
  obtain ⟨i0, hi, hz0, hz1, hz2⟩ := info_parts info71d
  have hs5 : Step (fun _ => False) w T w5 T := hdr.trans (step_below _ T hb5)
  have hal := step_alloc w5 T (.cells #[.int .i64 n, .int .i64 (p.tr n), .string s] 89) (fun _ => False)
  have hsa := hs5.trans hal
  have hB5 := hBg.step hs5 (fun h => h)
  have hBa := hBg.step hsa (fun h => h)
  obtain ⟨g6, cap6, w6, T6, hrun6, hR6, hs6⟩ := run_append_row (P := Try.prog) (tg := .q i 5 k) 87 87 89 i0 _ 3 32 Try.underlying87 hi hz0 hz1 hz2 rfl (by decide) _ _ _ (hE.step hsa (fun h => h)) ⟨w5.heap.size, 0, none⟩ 1 1 [.int .i64 n, .int .i64 (p.tr n), .string s] rfl
    (cells_new5 w5 [.int .i64 n, .int .i64 (p.tr n), .string s] 89) (by simp [Value.oneCell']) (by decide) (by unfold maxLen; omega) (by omega)
  have hB6 := hBa.step hs6 (by simp)
  have hs7 : Step (fun t => t = .q i 3 k) w6 T6 (w6.setCell ⟨gb, 2, none⟩ (.slice (some ⟨g6, 0, none⟩) (p.dead.length + 1) cap6)) T6 := step_setCell _ _ _ _ _ hB6.1
  refine ⟨g6, cap6, w6, T6, rfl, hrun6, hB5.lt, hB5.cell (j := 2) rfl, hB6.cell (j := 2) rfl, hB6.frozen 2, ?_, ?_⟩
  · exact (hsa.mono (fun _ h => h.elim)).trans ((hs6.mono (fun t ht => ⟨5, by decide, ht⟩)).trans (hs7.mono (fun t ht => ⟨3, by decide, ht⟩)))
  · refine ⟨vD, _, tb, wb, hB6.set 2 _, ((hD.step hsa (fun h => h)).step hs6 (by simp)).step hs7 (by simp), ?_, ((hT.step hsa (fun h => h)).step hs6 (by simp)).step hs7 (by simp), ((hW.step hsa (fun h => h)).step hs6 (by simp)).step hs7 (by simp)⟩
    have := hR6.step hs7 (by simp)
    simpa [buryP, dlVals_append, dlVals] using this

set_option maxRecDepth 100000 in
set_option maxHeartbeats 2000000 in
theorem bury_any (i k b gb : Nat) (m : MQ) (p : PG) (n : Nat) (s : ByteArray) (vB vM : Value) (w : World) (T : Nat → Tag)
    (hB : Blk w T (.q i 0 0) b #[.int .i64 m.c.l, .int .i64 m.c.d, .int .i64 m.c.s, .int .i64 m.c.k, .int .i64 m.time, .int .i64 m.floor, vB, vM] 105) (hS : Sub w T (.q i 1 0) vB ((m.bodies.drop m.floor.toNat).map .string))
    (hG : GM w T i k gb p) (hsm : m.bodies.length ≤ 400) (h0 : 0 ≤ m.floor) (hn0 : m.floor ≤ n) (hs : m.bodies[n]? = some s) (hdl : p.dead.length ≤ 4000) (hset : setB p.done = true) :
    Calls Try.prog 99 #[.pointer (some ⟨b, 0, none⟩), .pointer (some ⟨gb, 0, none⟩), .int .i64 n] w fun e w' => e = .returned (.tuple #[]) ∧
      ∃ T', Step (SG i k) w T w' T' ∧ GM w' T' i k gb (finishP (buryP p ⟨n, p.tr n, s⟩) n) := by
  have hnl := (List.getElem?_eq_some_iff.1 hs).1
  obtain ⟨vD, vE, tb, wb, hBg, hD, hE, hT, hW⟩ := hG
  obtain ⟨eo, ecap, rfl⟩ := row_form hE
  have lg := hBg.lt
  have d2 := hBg.cell (j := 2) rfl
  simp only [List.getElem_toArray, List.getElem_cons_succ, List.getElem_cons_zero] at d2
  have hcon := delivery_dead i k b gb m p n s vB vM w T eo ecap vD tb wb hB hS hBg hD hE hT hW hsm h0 hn0 hs hdl
  clear hB hS hBg hD hE hT hW
  go_enter Try.func99, Try.ntmps99
  go_wp2_with fail
  go_region_law (first
    | (refine step_append_known rfl _ _ 87 rfl _ _ _ rfl rfl hrun6 ?_)
    | (go_simp; go_at_call 109; refine hcon.mono ?_; rintro e w5 ⟨g6, cap6, w6, T6, rfl, hrun6, l5, o6, x6, y6, z6, k6⟩))
  all_goals
    generalize w6.setCell ⟨gb, 2, none⟩ (.slice (some ⟨g6, 0, none⟩) (p.dead.length + 1) cap6) = w7 at *
    go_wp2_with fail
    refine (finish_any i k gb _ n w7 T6 k6 hset (by omega)).mono ?_
    rintro e w8 ⟨rfl, T8, hs8, hG8⟩
    go_wp2
    go_end0
    exact ⟨rfl, T8, z6.trans hs8, hG8⟩

end Go.Proofs.Ytgcbooflhdjnhaa

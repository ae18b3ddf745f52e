/- Opens, walked: it returns true and changes nothing that was there. -/
import Derived.Test.YtockkceclkcgbaaGreatDoorT42
import Derived.Test.YtockkceclkcgbaaGreatDoorT28
import Derived.SizedLaws
namespace Go.Proofs.YtockkceclkcgbaaGreatDoor
open Go.RowKit

/-- a step of the kinds up to Group -/
theorem step3_any {B Bm : Int} (hX : XC X Bm) (hle : B ≤ Bm) (h0B : 0 ≤ B) (wb : Nat) (c d : Conf) (ps : List Nat) (kind qu : Int) (nm bd : ByteArray) (n tr ms : Int) (yes : Bool) (w : World) (T : Nat → Tag) (hw : WT X B w T wb c d 3 ps 0 0) (hn : i64 n) (hqu : i64 qu) (hpos : 0 < ps.length) (hlen : ps.length + 1 ≤ 17592186044416) :
    Calls Tryz.prog 16 #[.pointer (some ⟨wb, 0, none⟩), .agg (opCells kind qu nm bd n tr ms yes)] w fun e w' => e = .returned (.bool true) ∧ ∃ T' ps', Step (fun t => t ≠ .old) w T w' T' ∧ WT X B w' T' wb c d 3 ps' 0 0 ∧ ps.length ≤ ps'.length ∧ ps'.length ≤ ps.length + 1 := by
  have fin : ∀ {e : Ending} {w' : World}, CallPostG 0 X B w T wb c d 3 ps 0 0 e w' → e = .returned (.bool true) ∧ ∃ T' ps', Step (fun t => t ≠ .old) w T w' T' ∧ WT X B w' T' wb c d 3 ps' 0 0 ∧ ps.length ≤ ps'.length ∧ ps'.length ≤ ps.length + 1 := by
    rintro e w' ⟨rfl, T', q1, q1', hs, hw', e1, e2⟩
    obtain rfl : q1 = 0 := by omega
    obtain rfl : q1' = 0 := by omega
    exact ⟨rfl, T', ps, hs, hw', by omega, by omega⟩
  by_cases h1 : kind = 1
  · subst h1
    refine (stepT_open hX h0B wb c d 3 (by decide) ps 0 0 qu nm bd n tr ms yes w T hw hn hlen).mono ?_
    rintro e w' ⟨rfl, T', ps', hs, hw', e1, e2, _⟩
    exact ⟨rfl, T', ps', hs, hw', e1, e2⟩
  · by_cases h2 : 2 ≤ kind ∧ kind ≤ 3
    · refine (stepT_pair (G := 0) hX wb c d 3 (by decide) ps 0 0 kind qu nm bd n tr ms yes w T hw h2 hqu hpos (by omega) (fun w T k p hk hw => ?_)).mono (fun _ _ h => fin h)
      have hp := hw.prs k p hk
      have hK : kind = 2 ∨ kind = 3 := by omega
      rcases hK with rfl | rfl
      · refine (callT_enq hX hle k p _ qu nm bd n tr ms yes w T hp).mono ?_
        rintro e w' ⟨rfl, T', hs, hp'⟩
        exact post_queues hX (Int.le_refl _) hw hk hs hp'
      · refine (callT_grp hX hle k p _ qu nm bd n tr ms yes w T hp).mono ?_
        rintro e w' ⟨rfl, T', hs, hp'⟩
        exact post_queues hX (Int.le_refl _) hw hk hs hp'
    · exact (stepT_other hX wb c d 3 ps 0 0 kind qu nm bd n tr ms yes w T hw (by omega)).mono (fun _ _ h => fin h)

set_option maxRecDepth 100000 in
set_option maxHeartbeats 8000000 in
theorem opens_any (c d : Conf) (l : List OpV) (ao : Option Addr) (cap : Nat) (w : World) (hl : ArgO w ao l) (hlen : l.length ≤ 1759218604441) :
    Calls Tryz.prog 3 #[.agg c.cells, .agg d.cells, .slice ao l.length cap] w fun e w' => e = .returned (.bool true) ∧ Below w.heap.size w w' := by
  have hX := xc 0 (by decide)
  obtain ⟨T1, f1, hw1, hc1, hd1⟩ := law_start c d 3 w
  go_enter Tryz.func3, Tryz.ntmps3
  go_wp2_with fail
  have hop := opened_any hX (Int.le_refl _) (w.heap.size + 2) conf0 confZ 3 [] 0 0 0 _ T1 hw1 (by decide) (by decide) (by simp)
  refine hop.mono ?_
  clear hop
  rintro e w2 ⟨rfl, T2, ps, hs2, hw2, _, _, hnew⟩
  obtain ⟨p, rfl, hpq⟩ := hnew (by decide)
  have hq0 : selC 0 conf0 confZ = conf0 := by rfl
  rw [hq0] at hpq
  have hc2 := hc1.step hs2 (by simp)
  have hd2 := hd1.step hs2 (by simp)
  have f2 := (notOld_world f1 (fun h => h)).trans hs2
  clear hw1 hc1 hd1 f1 hs2 hq0
  generalize w.heap.size + 2 = wb at *
  -- the first message
  have hw2k := hw2
  obtain ⟨⟨vP, vr, vd, hB, hR, _, _⟩, _⟩ := hw2
  obtain ⟨gb, gc, e⟩ := row_some hR (by simp)
  subst e
  obtain ⟨bx, yb, vs, lg, hP, hx, hy, hfit⟩ := hpq
  have k8 := hB.cell (j := 8) rfl
  have kp : w2.cell? ⟨gb, 0, none⟩ = some (.pointer (some ⟨p, 0, none⟩)) := hR.cell (by simp [ptrV])
  have p0 := hP.cell (j := 0) rfl
  simp only [List.getElem_toArray, List.getElem_cons_succ, List.getElem_cons_zero, List.length_append, List.length_nil, List.length_cons, Nat.zero_add] at k8 p0
  go_wp2_with fail
  refine (hX.enq 0 bx ⟨conf0, [], 0, [], 0, 0⟩ letterA _ T2 hx hfit).mono ?_
  rintro e w3 ⟨rfl, T3, hs3, hx3⟩
  rw [show menqE ⟨conf0, [], 0, [], 0, 0⟩ letterA = 0 from rfl]
  have nX : ∀ t : Tag, t.c ≠ 5 → ¬ XT 0 t := fun t h h1 => h h1.1
  have hB3 := hB.step hs3 (nX _ (by simp))
  have hR3 := hR.step hs3 (nX _ (by simp))
  have hP3 := hP.step hs3 (nX _ (by simp))
  have hy3 := hy.step hs3 (fun _ _ => nX _ (by simp))
  have m8 := hB3.cell (j := 8) rfl
  have mp : w3.cell? ⟨gb, 0, none⟩ = some (.pointer (some ⟨p, 0, none⟩)) := hR3.cell (by simp [ptrV])
  have m1 := hP3.cell (j := 1) rfl
  simp only [List.getElem_toArray, List.getElem_cons_succ, List.getElem_cons_zero, List.length_append, List.length_nil, List.length_cons, Nat.zero_add] at m8 m1
  clear k8 kp p0
  go_wp2_with fail
  refine (yenqueue_any 0 yb _ letterA _ T3 hy3).mono ?_
  rintro e w4 ⟨rfl, T4, hs4, hy4⟩
  have hs24 : Step (ST 0) w2 T2 w4 T4 := (hs3.mono (fun _ h => .inl h)).trans (hs4.mono (fun _ h => .inr h))
  have nY : ∀ t : Tag, t.c ≠ 6 → ¬ ∃ r j, t = Tag.y 0 r j := by rintro t h ⟨r, j, rfl⟩; exact h rfl
  have hpr : PairT X 0 w4 T4 0 p := ⟨bx, yb, menqM ⟨conf0, [], 0, [], 0, 0⟩ letterA, vs, lg, hP3.step hs4 (nY _ (by simp)), hX.step hx3 hs4 (fun t h1 => nY _ (by rw [h1.1]; decide)), by rw [← menqM_rq]; exact hy4, fit_enq hfit letterA⟩
  obtain ⟨_, T5, q5, q5', hs25, hw4, g4, g4'⟩ := post_queues (G := 0) hX (Int.le_refl _) hw2k rfl hs24 hpr
  obtain rfl : q5 = 0 := by omega
  obtain rfl : q5' = 0 := by omega
  have hc4 := hc2.step hs25 (by simp)
  have hd4 := hd2.step hs25 (by simp)
  have f4 := f2.trans hs25
  clear hB hR hP hx hy hB3 hR3 hP3 hy3 m8 mp m1 hx3 hy4 hs3 hs4 hs24 hs25 hpr hw2k hc2 hd2 f2 hnew nX nY hfit g4 g4'
  generalize hps : ([] ++ [p] : List Nat) = ps at *
  have hps1 : ps.length = 1 := by rw [← hps]; rfl
  clear hps
  -- the caller's two configurations
  obtain ⟨hw5, hs5⟩ := hw4.conf0 hX c
  obtain ⟨⟨vP4, vr4, vd4, hB4, _, _, _⟩, _⟩ := hw4
  have e0 := hB4.cell (j := 0) rfl
  have e1 := hB4.cell (j := 1) rfl
  have e2 := hB4.cell (j := 2) rfl
  have e3 := hB4.cell (j := 3) rfl
  have z0 := hB4.frozen 0
  have z1 := hB4.frozen 1
  have z2 := hB4.frozen 2
  have z3 := hB4.frozen 3
  have g0 := hc4.cell (j := 0) rfl
  have g1 := hc4.cell (j := 1) rfl
  have g2 := hc4.cell (j := 2) rfl
  have g3 := hc4.cell (j := 3) rfl
  simp only [List.getElem_toArray, List.getElem_cons_succ, List.getElem_cons_zero] at e0 e1 e2 e3 g0 g1 g2 g3
  go_wp2_with fail
  go_region
  have hw5d := hw5.step hX (step_below (fun _ => False) T5 (Below.refl _ _).drew) (fun _ h => h)
  have hs5d := hs5.trans (step_below (fun t => t = .world) T5 (Below.refl _ _).drew)
  have hd5 := hd4.step hs5d (by simp)
  have f5 := f4.trans (notOld_world hs5d (by simp))
  clear hw5 hs5 hs5d hB4 e0 e1 e2 e3 z0 z1 z2 z3 g0 g1 g2 g3 hc4 hd4 f4
  generalize ((((w4.setCell ⟨wb, 0, none⟩ (.int .i64 c.l)).setCell ⟨wb, 1, none⟩ (.int .i64 c.d)).setCell ⟨wb, 2, none⟩ (.int .i64 c.s)).setCell ⟨wb, 3, none⟩ (.int .i64 c.k)).drew = w5 at *
  obtain ⟨hw6, hs6⟩ := hw5d.conf1 hX d
  obtain ⟨⟨vP5, vr5, vd5, hB5, _, _, _⟩, _⟩ := hw5d
  have e4 := hB5.cell (j := 4) rfl
  have e5 := hB5.cell (j := 5) rfl
  have e6 := hB5.cell (j := 6) rfl
  have e7 := hB5.cell (j := 7) rfl
  have z4 := hB5.frozen 4
  have z5 := hB5.frozen 5
  have z6 := hB5.frozen 6
  have z7 := hB5.frozen 7
  have g0 := hd5.cell (j := 0) rfl
  have g1 := hd5.cell (j := 1) rfl
  have g2 := hd5.cell (j := 2) rfl
  have g3 := hd5.cell (j := 3) rfl
  simp only [List.getElem_toArray, List.getElem_cons_succ, List.getElem_cons_zero] at e4 e5 e6 e7 g0 g1 g2 g3
  go_wp2_with fail
  go_region
  have hw6d := hw6.step hX (step_below (fun _ => False) T5 (Below.refl _ _).drew) (fun _ h => h)
  have hs6d := hs6.trans (step_below (fun t => t = .world) T5 (Below.refl _ _).drew)
  have f6 := f5.trans (notOld_world hs6d (by simp))
  clear hw6 hs6 hs6d hB5 e4 e5 e6 e7 z4 z5 z6 z7 g0 g1 g2 g3 hd5 f5
  generalize ((((w5.setCell ⟨wb, 4, none⟩ (.int .i64 d.l)).setCell ⟨wb, 5, none⟩ (.int .i64 d.d)).setCell ⟨wb, 6, none⟩ (.int .i64 d.s)).setCell ⟨wb, 7, none⟩ (.int .i64 d.k)).drew = w6 at *
  -- two queues of them
  go_wp2_with fail
  refine (opened_any hX (Int.le_refl _) wb c d 3 ps 0 0 0 _ T5 hw6d (by decide) (by decide) (by omega)).mono ?_
  rintro e w7 ⟨rfl, T7, ps7, hs7, hw7, a7, b7, _⟩
  have f7 := f6.trans hs7
  go_wp2_with fail
  refine (opened_any hX (Int.le_refl _) wb c d 3 ps7 0 0 1 _ T7 hw7 (by decide) (by decide) (by omega)).mono ?_
  rintro e w8 ⟨rfl, T8, ps8, hs8, hw8, a8, b8, _⟩
  have f8 := f7.trans hs8
  clear hs7 hs8 f7 f6 hw6d hw7
  have hp8 : 0 < ps8.length := by omega
  have hq8 : ps8.length ≤ 3 := by omega
  clear a7 b7 a8 b8 hps1
  go_wp2_with fail
  go_loopw [13] (fun x wr => ∃ (k : Nat) (T' : Nat → Tag) (qs : List Nat), k ≤ l.length ∧ x = .int .i64 k ∧ Step (fun t => t ≠ .old) w (fun _ => .old) wr T' ∧ WT X 0 wr T' wb c d 3 qs 0 0 ∧ 0 < qs.length ∧ qs.length ≤ k + 3) (fun x _ => l.length - (intOf x).toNat)
  case atStart => exact ⟨0, T8, ps8, Nat.zero_le _, rfl, f8, hw8, hp8, by omega⟩
  case round =>
    obtain ⟨k, T', qs, hk, rfl, hs, hw, hp, hq⟩ := hrel
    clear hw8 f8 hp8 hq8
    by_cases hlt : k < l.length
    · obtain ⟨o, ho⟩ : ∃ o, l[k]? = some o := ⟨_, List.getElem?_eq_getElem hlt⟩
      obtain ⟨h1, h2, ob, off, rfl, hob, hcl⟩ := hl k o ho
      have q0 := (hs.cell (p := ⟨ob, off + k * 8 + 0, none⟩) hob (by simp)).trans (hcl 0 _ rfl)
      have q1 := (hs.cell (p := ⟨ob, off + k * 8 + 1, none⟩) hob (by simp)).trans (hcl 1 _ rfl)
      have q2 := (hs.cell (p := ⟨ob, off + k * 8 + 2, none⟩) hob (by simp)).trans (hcl 2 _ rfl)
      have q3 := (hs.cell (p := ⟨ob, off + k * 8 + 3, none⟩) hob (by simp)).trans (hcl 3 _ rfl)
      have q4 := (hs.cell (p := ⟨ob, off + k * 8 + 4, none⟩) hob (by simp)).trans (hcl 4 _ rfl)
      have q5 := (hs.cell (p := ⟨ob, off + k * 8 + 5, none⟩) hob (by simp)).trans (hcl 5 _ rfl)
      have q6 := (hs.cell (p := ⟨ob, off + k * 8 + 6, none⟩) hob (by simp)).trans (hcl 6 _ rfl)
      have q7 := (hs.cell (p := ⟨ob, off + k * 8 + 7, none⟩) hob (by simp)).trans (hcl 7 _ rfl)
      rw [Nat.add_zero] at q0
      simp only [List.getElem_toArray, List.getElem_cons_succ, List.getElem_cons_zero] at q0 q1 q2 q3 q4 q5 q6 q7
      have hst := step3_any hX (Int.le_refl _) (Int.le_refl _) wb c d qs o.kind o.qu o.nm o.bd o.n o.tr o.ms o.yes wr T' hw h2 h1 hp (by omega)
      clear hl hcl ho hw
      go_wp2_with fail
      unfold opCells at hst
      refine hst.mono ?_
      clear hst
      rintro e w9 ⟨rfl, T9, qs9, hs9, hw9, a9, b9⟩
      go_wp2
      refine ⟨⟨k + 1, T9, qs9, by omega, by simp, hs.trans hs9, hw9, by omega, by omega⟩, by simp [intOf]; omega⟩
    · go_wp2_with fail
      go_loopw [14] (fun x wx => ∃ (j : Nat) (T2 : Nat → Tag), j ≤ qs.length ∧ x = .int .i64 j ∧ Step (fun t => t ≠ .old) w (fun _ => .old) wx T2 ∧ WT X 0 wx T2 wb c d 3 qs 0 0) (fun x _ => qs.length - (intOf x).toNat)
      case atStart => exact ⟨0, T', Nat.zero_le _, rfl, hs, hw⟩
      case round =>
        obtain ⟨j, Tj, hj, rfl, hsj, hwj⟩ := hrel
        obtain ⟨po, pc, lw, k8, hrow⟩ := hwj.see
        clear hs hw
        by_cases hjt : j < qs.length
        · obtain ⟨pj, hpj⟩ : ∃ pj, qs[j]? = some pj := ⟨_, List.getElem?_eq_getElem hjt⟩
          obtain ⟨gb', rfl, lg', kp⟩ := hrow j pj hpj
          clear hl hrow
          go_wp2_with fail
          refine (told_spanT hX (Int.le_refl _) j pj _ _ _ Tj (hwj.prs j pj hpj)).mono ?_
          rintro e w9 ⟨rfl, T9, hs9, hp9⟩
          obtain ⟨_, T9', q9, q9', hs9', hw9, a9, a9'⟩ := post_queues (G := 0) hX (Int.le_refl _) hwj hpj (hs9.mono (fun _ h => .inl h)) hp9
          obtain rfl : q9 = 0 := by omega
          obtain rfl : q9' = 0 := by omega
          go_wp2
          refine ⟨⟨j + 1, T9', by omega, by simp, hsj.trans hs9', hw9⟩, by simp [intOf]; omega⟩
        · clear hl hrow
          go_wp2
          go_ret
          refine ⟨rfl, hsj.os, hsj.tape, hsj.output, hsj.size, fun k hk => hsj.block k hk (by simp)⟩

end Go.Proofs.YtockkceclkcgbaaGreatDoor

/- Opens is true whatever the configurations and the script, and leaves them as they were: the given statement OpensSaid, with no condition. -/
namespace Go.Proofs.YtockkceclkcgbaaGreatDoor
open Go.ChangeShapes Go.WideShapes Go.ChangeAt Go.RowKit

theorem Tryz.bytes46 : Tryz.prog.bytesOf 46 = 80 := by kernel_rfl

set_option maxRecDepth 100000 in
theorem opens_contract (H : Type) (enc : TypeId × Value → H) (W : World) (base : Nat) (args : Array Value) (ds gs : List (DataW H)) (before : List MemPlace)
    (hval : ∀ (j : Nat) t v, Tryz.f3.params[j]? = some t → args[j]? = some v → Value.okWide Tryz.prog W .any base t v)
    (hW : DataW.Whole enc Tryz.prog Tryz.f3.params.toList Rows.opensSpec.vars false W args.toList ds gs before)
    (hsz : (DataW.weightsEach Tryz.prog (Tryz.f3.params.toList ++ Rows.opensSpec.plain.varTypes Tryz.prog) (ds ++ gs)).all (· ≤ reachBytes) = true) :
    Calls Tryz.prog 3 args W fun e W' => ∃ v, e = .returned v ∧ Rows.opensSpec.post enc Tryz.prog Tryz.f3 false true false false W args v W' := by
  have hW' := hW
  obtain ⟨p, q, hA0, hV, rfl, _, _⟩ := hW
  have hA : DataW.TrodAll enc Tryz.prog W 0 (fun _ => true) true Tryz.f3.params.toList args.toList ds p := hA0
  rw [Tryz.params3] at hA hval hsz
  obtain ⟨v0, v1, v2, d0, d1, d2, p0, p1, p2, rfl, rfl, rfl, h0, h1, h2⟩ := trodAll_three hA
  obtain ⟨rfl, rfl⟩ := trodVars_none hV
  obtain ⟨a2, n2, c2, rfl⟩ := okWide_slice Tryz.underlying24 (hval 2 24 v2 rfl rfl)
  obtain ⟨c, rfl⟩ := open_conf (hval 0 23 v0 rfl rfl) h0
  obtain ⟨d, rfl⟩ := open_conf (hval 1 23 v1 rfl rfl) h1
  have h2k := h2
  obtain ⟨f2, hf2⟩ := h2
  clear hA0
  simp only [List.append_nil] at hW' hsz
  have hlt : ∀ x ∈ p0 ++ p1 ++ p2, x.block < W.heap.size := fun x hx => by simpa using hW'.lt x hx
  have hlt0 : ∀ x ∈ p0, x.block < W.heap.size := fun x hx => hlt x (by simp [hx])
  have hlt1 : ∀ x ∈ p1, x.block < W.heap.size := fun x hx => hlt x (by simp [hx])
  have hlt2 : ∀ x ∈ p2, x.block < W.heap.size := fun x hx => hlt x (by simp [hx])
  obtain ⟨l, rfl, hL, hd⟩ := open_ops rfl hf2
  have hlen : l.length ≤ 1759218604441 := by
    rcases hd with h | ⟨xs, ys, rfl, hx⟩
    · omega
    · have := sized_slice hsz (j := 2) (t := 24) (e := 46) rfl rfl Tryz.underlying24
      rw [Tryz.bytes46, hx] at this
      have h47 := reachBytes_lt
      omega
  refine (opens_any c d l a2 c2 W hL hlen).mono fun e W' ⟨he, hg⟩ => ?_
  subst he
  refine ⟨_, rfl, _, _, _, [], p0 ++ (p1 ++ p2), [], hW', ?_, ?_, rfl, hg.frame _, fun h => by cases h⟩
  · exact trodAll_mk1 (shut_bool Tryz.underlying4 _)
  · exact trodAll_mk3 (Below.trod Tryz.laidOut (by kernel_rfl) (of_decide_eq_true (by kernel_rfl)) h0 hg hlt0) (Below.trod Tryz.laidOut (by kernel_rfl) (of_decide_eq_true (by kernel_rfl)) h1 hg hlt1)
      (Below.trod Tryz.laidOut (by kernel_rfl) (of_decide_eq_true (by kernel_rfl)) h2k hg hlt2)

set_option maxRecDepth 100000 in
theorem opens_lifted (os : Os) (started : os.Started) (H : Type) (enc : TypeId × Value → H) :
    ReturnsInHanded {} Tryz.checked os 3 .any (fun w args => (Rows.opensSpec.pre enc Tryz.prog Tryz.f3 [] false w args ∧ laidMetH Tryz.prog laidL w) ∧ sizedMet enc Tryz.prog Tryz.f3 (OpenSpec.ofChange Rows.opensSpec) false w args)
      (Rows.opensSpec.post enc Tryz.prog Tryz.f3 false true false false) := by
  refine returnsInHanded_of_change_and (C := Tryz.checked) (X := fun w _ => laidMetH Tryz.prog laidL w) (fun _ _ _ hh h => h.of_heap hh) Tryz.own started (by kernel_rfl) Tryz.func3
    (ChangeSpec.witness_at (enc := enc) (C := Tryz.checked) (os := os) (X := fun w _ => laidMetH Tryz.prog laidL w) false (laidWorld os) #[.agg #[.int .i64 0, .int .i64 0, .int .i64 0, .int .i64 0], .agg #[.int .i64 0, .int .i64 0, .int .i64 0, .int .i64 0], .slice none 0 0] 8 rfl (by kernel_rfl) (by kernel_rfl) (by kernel_rfl) (by kernel_rfl) (by kernel_rfl) (laid_metH os _)) ?_
  intro W base args ds gs before hval hW _ hsz _ _
  exact opens_contract H enc W base args ds gs before hval hW hsz

theorem opens_row : Rows.OpensSaid :=
  OpenClaim.holds_of_wide 3 Tryz.f3 rfl rfl rfl rfl rfl rfl rfl ⟨rfl, rfl, rfl, rfl, rfl⟩ rfl rfl rfl rfl rfl (by kernel_rfl) Tryz.func3 (by kernel_rfl)
    (of_decide_eq_true (by kernel_rfl)) (by unfold Func.isWrapper; first | (rw [if_pos (by decide +kernel)]; kernel_rfl) | (rw [if_neg (by decide +kernel)]; exact ⟨rfl, rfl⟩))
    (fun os started H enc _ => opens_lifted os started H enc)

theorem opens_holds : Rows.OpensCardSaid :=
  Claim7.holds_tied_plain_at .later [] [.sentinel, .sentinel] true Rows.opensCard.stood.harness true
    opens_row (fun _ h => by cases h) (by kernel_rfl) (fun _ h => by cases h) opens_row_tie rfl ⟨rfl, rfl⟩ (by kernel_rfl) rfl
    (fun f fn hf hfn => by
      obtain rfl : f = 3 := Option.some.inj ((show Tryz.prog.funcNamed "quay/quaylaw.Opens" = some 3 by kernel_rfl).symm.trans hf) |>.symm
      obtain rfl : fn = Tryz.f3 := (Option.some.inj (Tryz.func3.symm.trans hfn)).symm
      exact ⟨by kernel_rfl, fun j t ht => by
        rw [Tryz.params3] at ht
        rcases j with _ | _ | _ | j
        · obtain rfl : t = 23 := by simpa using ht.symm
          kernel_rfl
        · obtain rfl : t = 23 := by simpa using ht.symm
          kernel_rfl
        · obtain rfl : t = 24 := by simpa using ht.symm
          kernel_rfl
        · simp at ht⟩)
    (by kernel_rfl)

#print axioms opens_holds

end Go.Proofs.YtockkceclkcgbaaGreatDoor

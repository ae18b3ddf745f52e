/- The contract of compacted: Compact; the log behind it is not too long. -/
import Derived.Test.YtockkceclkcgbaaGreatDoorA45
namespace Go.Proofs.YtockkceclkcgbaaGreatDoor
open Go.RowKit

attribute [local go_sem] over_cell

theorem deadCost_le (l : List Dl) (h : ∀ x ∈ l, x.body.size ≤ 64) : deadCost l ≤ 72 * l.length := by
  induction l with
  | nil => simp [deadCost]
  | cons x r ih =>
    have a := h x (by simp)
    have b := ih (fun y hy => h y (by simp [hy]))
    unfold deadCost at b ⊢
    simp only [List.map_cons, List.sum_cons, List.length_cons]
    omega

theorem keptCost_le (G : Nat) (l : List ByteArray) (h : ∀ x ∈ l, x.size ≤ 64) : keptCost G l ≤ (72 + 4 * G) * l.length := by
  induction l with
  | nil => simp [keptCost]
  | cons x r ih =>
    have a := h x (by simp)
    have b := ih (fun y hy => h y (by simp [hy]))
    unfold keptCost at b ⊢
    simp only [List.map_cons, List.sum_cons, List.length_cons]
    rw [Nat.mul_add]
    omega

theorem grpCost_le {m : MQ} : ∀ (l : List MG), (∀ g ∈ l, ∀ x ∈ g.dead.map (deadOf m g), x.body.size ≤ 64) → (∀ g ∈ l, g.dead.length ≤ 4000) → (∀ g ∈ l, g.name.size ≤ 16) → grpCost m l ≤ 300000 * l.length
  | [], _, _, _ => by simp [grpCost]
  | g :: r, h1, h2, h3 => by
    have ih := grpCost_le r (fun x hx => h1 x (by simp [hx])) (fun x hx => h2 x (by simp [hx])) (fun x hx => h3 x (by simp [hx]))
    have a := deadCost_le _ (h1 g (by simp))
    rw [List.length_map] at a
    have b := h2 g (by simp)
    have c := h3 g (by simp)
    unfold grpCost at ih ⊢
    simp only [List.map_cons, List.sum_cons, List.length_cons]
    omega

theorem Fresh.back {j : Nat} {S : Tag → Prop} {w w' : World} {T T' : Nat → Tag} (h : Fresh j w' T') (hs : Step S w T w' T') : Fresh j w T :=
  ⟨h.1, fun k hk => by have h1 := h.2 k (Nat.lt_of_lt_of_le hk hs.size); rw [hs.tag k hk] at h1; exact h1⟩
theorem YQ.readB {w : World} {T : Nat → Tag} {i b : Nat} {m : MQ} (hy : YQ w T i b m.rq) : ∃ bo bc go gc, w.cell? ⟨b, 4, none⟩ = some (.slice bo m.bodies.length bc) ∧ w.cell? ⟨b, 5, none⟩ = some (.int .i64 m.floor) ∧ w.cell? ⟨b, 6, none⟩ = some (.slice go m.groups.length gc) ∧ Row w T (.y i 1 0) 9 1 (.slice bo m.bodies.length bc) m.bodies.length (m.bodies.map .string) ∧ b < w.heap.size := by
  obtain ⟨_, _, _, vB, vG, vi, vd, hB, hR, hG, _⟩ := hy
  have hbl : m.rq.bodies.length = m.bodies.length := by simp [MQ.rq]
  have hgl : m.rq.groups.length = m.groups.length := by simp [MQ.rq]
  rw [hbl] at hR
  rw [hgl] at hG
  obtain ⟨bo, bc, rfl⟩ := row_form hR
  obtain ⟨go, gc, rfl⟩ := row_form hG
  exact ⟨bo, bc, go, gc, hB.cell (j := 4) rfl, hB.cell (j := 5) rfl, hB.cell (j := 6) rfl, hR, hB.lt⟩

theorem row_lit (w : World) (T : Nat → Tag) (t : Tag) (e : TypeId) (a b : Value) : Row (w.alloc (.cells #[a, b] e)) (retag T w.heap.size t) t e 2 (.slice (some ⟨w.heap.size, 0, none⟩) 1 1) 1 [a, b] :=
  ⟨⟨rfl, .inr ⟨w.heap.size, 1, #[a, b], rfl, Nat.zero_le _, heap_alloc_new w _, Nat.le_refl _, by unfold maxLen; omega, rfl, rfl⟩⟩, fun k hk => by
    simp [Value.ownBlock] at hk
    subst hk
    exact retag_same _ _ _⟩
theorem ycopy_lit (i yb pb bx j : Nat) (hij : i ≠ j) (m : MQ) (B : Int) (lg : ByteArray) (len : Int) (vs : Value) (w : World) (T : Nat → Tag)
    (hY : YQ w T i yb m.rq) (hf : m.Fit B) (hP : Blk w T (.pair i) pb (pairCells bx yb m.c vs lg) 41) :
    Calls Tryz.prog 40 #[.pointer (some ⟨yb, 0, none⟩)] w fun e w5 => ∃ p5 T6, e = .returned (.pointer (some ⟨p5, 0, none⟩)) ∧
      pb < w5.heap.size ∧ w5.cell? ⟨pb, 6, none⟩ = some vs ∧ w5.cell? ⟨pb, 7, none⟩ = some (.string lg) ∧ w5.frozen? ⟨pb, 6, none⟩ = false ∧
      (w5.alloc (.cells #[.int .i64 len, .pointer (some ⟨p5, 0, none⟩)] 98)).cell? ⟨pb, 6, none⟩ = some vs ∧ (w5.alloc (.cells #[.int .i64 len, .pointer (some ⟨p5, 0, none⟩)] 98)).frozen? ⟨pb, 6, none⟩ = false ∧
      ∃ w7, w7 = (w5.setCell ⟨pb, 6, none⟩ (.slice (some ⟨w5.heap.size, 0, none⟩) 1 1)).alloc (.cells #[.int .i64 len, .pointer (some ⟨p5, 0, none⟩)] 98) ∧
      Step (CpA i j) w T w7 T6 ∧ Blk w7 T6 (.pair i) pb (pairCells bx yb m.c (.slice (some ⟨w5.heap.size, 0, none⟩) 1 1) lg) 41 ∧
      YQ w7 T6 i yb m.rq ∧ YQ w7 T6 j p5 m.rq ∧ Row w7 T6 (.st i) 98 2 (.slice (some ⟨w5.heap.size, 0, none⟩) 1 1) 1 [.int .i64 len, .pointer (some ⟨p5, 0, none⟩)] := by
  have hsm : m.bodies.length ≤ 400 := by have := hY.small; simpa [MQ.rq] using this
  refine (ycopy_any i yb j hij m w T hY hf.ok (hf.dead hsm)).mono ?_
  rintro e w5 ⟨p5, rfl, T5, hs5, hy5, hge⟩
  have hP5 := hP.step hs5 (by simp [CpS])
  have hY5 := hY.step hs5 (by rintro r k (⟨r', k', e⟩ | e); exact hij (congrArg Tag.i e); exact absurd (congrArg Tag.c e) (by simp))
  have hset : Step (fun s => s = .pair i) w5 T5 (w5.setCell ⟨pb, 6, none⟩ (.slice (some ⟨w5.heap.size, 0, none⟩) 1 1)) T5 := step_setCell _ _ _ _ _ hP5.1
  have hP6 : Blk (w5.setCell ⟨pb, 6, none⟩ (.slice (some ⟨w5.heap.size, 0, none⟩) 1 1)) T5 (.pair i) pb (pairCells bx yb m.c (.slice (some ⟨w5.heap.size, 0, none⟩) 1 1) lg) 41 := hP5.set 6 _
  have hy6 := hy5.step hset (by simp)
  have hY6 := hY5.step hset (by simp)
  have hsz : (w5.setCell ⟨pb, 6, none⟩ (.slice (some ⟨w5.heap.size, 0, none⟩) 1 1)).heap.size = w5.heap.size := by simp
  have hP5a := hP5.step (step_alloc w5 T5 (.cells #[.int .i64 len, .pointer (some ⟨p5, 0, none⟩)] 98) (fun _ => False)) (fun h => h)
  have hfin : ∀ (ws : World) (n : Nat), ws.heap.size = n → Step (fun _ => False) ws T5 (ws.alloc (.cells #[.int .i64 len, .pointer (some ⟨p5, 0, none⟩)] 98)) (retag T5 n (.st i)) ∧ Row (ws.alloc (.cells #[.int .i64 len, .pointer (some ⟨p5, 0, none⟩)] 98)) (retag T5 n (.st i)) (.st i) 98 2 (.slice (some ⟨n, 0, none⟩) 1 1) 1 [.int .i64 len, .pointer (some ⟨p5, 0, none⟩)] := by
    rintro ws n rfl
    exact ⟨step_new ws T5 _ _ _, row_lit ws T5 _ _ _ _⟩
  obtain ⟨hal, hR6⟩ := hfin _ _ hsz
  exact ⟨p5, _, rfl, hP5.lt, hP5.cell (j := 6) rfl, hP5.cell (j := 7) rfl, hP5.frozen 6, hP5a.cell (j := 6) rfl, hP5a.frozen 6, _, rfl, ((hs5.mono cp_A).trans (hset.mono (fun t ht => .inl ht))).trans (hal.mono (fun _ h => h.elim)), hP6.step hal (fun h => h), hY6.step hal (fun _ _ h => h), hy6.step hal (fun _ _ h => h), hR6⟩

set_option maxRecDepth 100000 in
set_option maxHeartbeats 4000000 in
theorem compacted_any {B : Int} {a0 a1 : Addr} (i p : Nat) (w : World) (T : Nat → Tag) (hi : i < HI) (hp : PairA B w T i p) (_hLd : Laid w T a0 a1) (hlm : B ≤ 100000000000) :
    Calls Tryz.prog 44 #[.pointer (some ⟨p, 0, none⟩)] w fun e w' => e = .returned (.bool true) ∧ ∃ T' j, Fresh j w T ∧ Step (OneS i j) w T w' T' ∧ PairA B w' T' i p := by
  obtain ⟨vs, m, gh, st, ⟨bx, yb, mx, hB, ⟨hm, hx⟩, hy, hf⟩, hst, hcnt⟩ := hp
  subst hm
  have l0 := hB.lt
  have c0 := hB.cell (j := 0) rfl
  simp only [List.getElem_toArray, List.getElem_cons_zero] at c0
  go_enter Tryz.func44, Tryz.ntmps44
  go_wp2_with fail
  refine (xcompG_any i bx mx gh w T hx hf.ok).mono ?_
  rintro e w1 ⟨rfl, T1, hs1, hx1⟩
  have hlen := compact_len hf.ok hx.log.ok
  generalize compL mx.c (coreM mx) = lg2 at *
  generalize compS mx.c (coreM mx) = sm2 at *
  have hB1 := hB.step hs1 (by simp [XT])
  have hy1 := hy.step hs1 (by simp [XT])
  clear hB hy hst c0 l0 hx
  have l1 := hB1.lt
  have c0 := hB1.cell (j := 0) rfl
  have c7 := hB1.cell (j := 7) rfl
  have z7 := hB1.frozen 7
  simp only [List.getElem_toArray, List.getElem_cons_succ, List.getElem_cons_zero] at c0 c7
  have hlog := xlogG_any i bx mx _ w1 T1 hx1
  have hs2 : Step (fun t => t = .pair i) w1 T1 (w1.setCell ⟨p, 7, none⟩ (.string (mkB lg2))) T1 := step_setCell _ _ _ _ _ hB1.1
  have hB2 : Blk (w1.setCell ⟨p, 7, none⟩ (.string (mkB lg2))) T1 (.pair i) p (pairCells bx yb mx.c vs (mkB lg2)) 41 := hB1.set 7 _
  have hx2 := (xl 0 (by decide)).step hx1 hs2 (by rintro t h1 rfl; exact absurd h1.1 (by simp))
  have hy2 := hy1.step hs2 (by simp)
  have l2 := hB2.lt
  have d1 := hB2.cell (j := 1) rfl
  have d6 := hB2.cell (j := 6) rfl
  have d7 := hB2.cell (j := 7) rfl
  have z6 := hB2.frozen 6
  simp only [List.getElem_toArray, List.getElem_cons_succ, List.getElem_cons_zero] at d1 d6 d7
  go_wp2_with fail
  refine hlog.mono ?_
  rintro e w1' ⟨rfl, rfl⟩
  go_wp2_with fail
  clear hB1 hy1 c0 c7 z7 l1 hlog
  generalize w1'.setCell ⟨p, 7, none⟩ (.string (mkB lg2)) = wk at *
  obtain ⟨j, hj⟩ := fresh_hi wk T1
  have hij : i ≠ j := by have := hj.1; omega
  have hdr : Step (fun _ => False) wk T1 wk.drew T1 := step_below _ T1 (Below.refl _ _).drew
  have hcp := ycopy_lit i yb p bx j hij mx B (mkB lg2) ((mkB lg2).size : Int) vs wk.drew T1 (hy2.step hdr (fun _ _ h => h)) hf (hB2.step hdr (fun h => h))
  go_cut [33] from 21 to 35 (fun _ w' => ∃ T' g6 p5, Step (CpA i j) wk T1 w' T' ∧ Blk w' T' (.pair i) p (pairCells bx yb mx.c (.slice (some ⟨g6, 0, none⟩) 1 1) (mkB lg2)) 41 ∧ YQ w' T' i yb mx.rq ∧ YQ w' T' j p5 mx.rq ∧ Row w' T' (.st i) 98 2 (.slice (some ⟨g6, 0, none⟩) 1 1) 1 [.int .i64 ((mkB lg2).size : Int), .pointer (some ⟨p5, 0, none⟩)])
  case first =>
    go_region_law (go_simp; go_at_call 40; refine hcp.mono ?_; rintro e w5 ⟨p5, T6, rfl, l5, o6, o7, o8, x6, y6, w7, hw7, q1, q2, q3, q4, q5⟩)
    all_goals
      go_wp2_with fail
      go_meet
      subst hw7
      exact ⟨T6, w5.heap.size, p5, (hdr.mono (fun _ h => h.elim)).trans q1, q2, q3, q4, q5⟩
  case rest =>
    obtain ⟨T6, g6, p5, q1, q2, q3, q4, q5⟩ := hcut
    generalize wc = w6 at *
    clear hcp l2 d1 d6 d7 z6 hB2 hy2
    have hx6 := (xl 0 (by decide)).step hx2 q1 cpA_x
    have l6 := q2.lt
    have e1 := q2.cell (j := 1) rfl
    simp only [List.getElem_toArray, List.getElem_cons_succ, List.getElem_cons_zero] at e1
    have hsz := mkB_size lg2
    have hsm : mx.bodies.length ≤ 400 := by have := q3.small; simpa [MQ.rq] using this
    have hfew : mx.groups.length ≤ 6 := by have := q3.few; simpa [MQ.rq] using this
    have hcok := hx6.log.ok
    have hdd := hf.dead hsm
    have hnm : ∀ g ∈ mx.groups, g.name.size ≤ 16 := fun g hg => by
      obtain ⟨_, h, _⟩ := hx6
      exact h.short g.name (List.mem_map.2 ⟨g, hg, rfl⟩)
    have hdb : ∀ g ∈ mx.groups, ∀ x ∈ g.dead.map (deadOf mx g), x.body.size ≤ 64 := fun g hg x hx => ((hcok.grp (g.name, coreG mx g) (List.mem_map.2 ⟨g, hg, rfl⟩)).dead x hx).2.2.1
    have hkb : ∀ x ∈ mx.bodies.drop mx.floor.toNat, x.size ≤ 64 := fun x hx => hcok.short x hx
    clear hcok
    go_wp2_with fail
    go_loopw [3, 4] (fun u v wr => ∃ k : Nat, k ≤ mx.groups.length ∧ v = .int .i64 k ∧ u = .int .i64 (64 + grpCost mx (mx.groups.take k) : Nat) ∧ Below w6.heap.size w6 wr) (fun _ v _ => mx.groups.length - (intOf v).toNat)
    case atStart => exact ⟨0, Nat.zero_le _, rfl, by simp [grpCost], Below.refl _ _⟩
    case round =>
      obtain ⟨k, hk, rfl, rfl, hb⟩ := hrel
      have f7 := step_below (fun _ => False) T6 hb
      have hP7 := q2.step f7 (fun h => h)
      have hy7 := q3.step f7 (fun _ _ h => h)
      have l7 := hP7.lt
      have e1 := hP7.cell (j := 1) rfl
      simp only [List.getElem_toArray, List.getElem_cons_succ, List.getElem_cons_zero] at e1
      have hgc := grpCost_le (m := mx) (mx.groups.take k) (fun g hg => hdb g (List.mem_of_mem_take hg)) (fun g hg => hdd g (List.mem_of_mem_take hg)) (fun g hg => hnm g (List.mem_of_mem_take hg))
      rw [List.length_take] at hgc
      by_cases hlt : k < mx.groups.length
      · obtain ⟨g, hg⟩ : ∃ g, mx.groups[k]? = some g := ⟨_, List.getElem?_eq_getElem hlt⟩
        have hgm := List.mem_of_getElem? hg
        obtain ⟨gb, gc, io, ic, dO, dc, c6, d0, _, _, d3, _, hD, _, _, lb, lgb⟩ := hy7.readG hg
        have hn16 := hnm g hgm
        have hd4 := hdd g hgm
        have hsn := grpCost_snoc (m := mx) hg
        generalize wr = wo at *
        go_wp2_with fail
        go_loopw [3, 6] (fun u v wz => ∃ j : Nat, j ≤ g.dead.length ∧ v = .int .i64 j ∧ u = .int .i64 (64 + (grpCost mx (mx.groups.take k) : Int) + 32 + (g.name.size : Int) + (deadCost ((g.dead.map (deadOf mx g)).take j) : Nat)) ∧ Below wo.heap.size wo wz) (fun _ v _ => g.dead.length - (intOf v).toNat)
        case atStart => exact ⟨0, Nat.zero_le _, rfl, by simp [deadCost], Below.refl _ _⟩
        case round =>
          obtain ⟨j2, hj2, rfl, rfl, hbz⟩ := hrel
          have fz := step_below (fun _ => False) T6 hbz
          have hPz := hP7.step fz (fun h => h)
          have hyz := hy7.step fz (fun _ _ h => h)
          have hDz := hD.step fz (fun h => h)
          have lz := hPz.lt
          have ez := hPz.cell (j := 1) rfl
          simp only [List.getElem_toArray, List.getElem_cons_succ, List.getElem_cons_zero] at ez
          by_cases hltj : j2 < g.dead.length
          · obtain ⟨q, hq⟩ : ∃ q, g.dead[j2]? = some q := ⟨_, List.getElem?_eq_getElem hltj⟩
            have hqb : q < mx.bodies.length := hf.ok.dead g hgm q (List.mem_of_getElem? hq)
            obtain ⟨bd, hbd⟩ : ∃ bd, mx.bodies[q]? = some bd := ⟨_, List.getElem?_eq_getElem hqb⟩
            obtain ⟨bo, bc, go, gc', c4, _, _, hR, lb4⟩ := hyz.readB
            obtain ⟨gd, dc', e⟩ := row_some hDz (by omega)
            simp only [Value.slice.injEq] at e
            obtain ⟨rfl, _, _⟩ := e
            obtain ⟨gz, bc', e⟩ := row_some hR (by omega)
            simp only [Value.slice.injEq] at e
            obtain ⟨rfl, _, _⟩ := e
            have tq : wr.cell? ⟨gd, j2, none⟩ = some (.int .i64 q) := hDz.cell (by simp [hq, natV])
            have tb : wr.cell? ⟨gz, q, none⟩ = some (.string bd) := hR.cell (by simp [hbd])
            have ldz := hDz.lt
            have lrz := hR.lt
            have hxd : (g.dead.map (deadOf mx g))[j2]? = some (deadOf mx g q) := by simp [hq]
            have hbs : (deadOf mx g q).body = bd := by simp [deadOf, List.getD, hbd]
            have eD := deadCost_snoc hxd
            have hb64 := hdb g hgm _ (List.mem_of_getElem? hxd)
            rw [hbs] at eD hb64
            have hdc := deadCost_le ((g.dead.map (deadOf mx g)).take j2) (fun x hx => hdb g hgm x (List.mem_of_mem_take hx))
            rw [List.length_take, List.length_map] at hdc
            have eD' := hide eD
            clear eD hxd hbs hsn hD hDz hR hyz hPz hy7 hP7 hlen
            go_wp2_with fail
            refine wp_region_over (by kernel_rfl) (by kernel_rfl) ?_
            repeat (go_big_quiet_step (fail))
            refine wpQuiet_nil ?_
            rintro _ ⟨x9, rfl⟩
            have hb9 := hbz.trans ((over_below wr x9).mono hbz.size)
            generalize over wr x9 = w9 at *
            go_wp2
            refine ⟨⟨j2 + 1, by omega, by simp, ?_, hb9⟩, by simp [intOf]; omega⟩
            rw [eD'.out]
            simp
            omega
          · have hjl : j2 = g.dead.length := by omega
            subst hjl
            have eL : (g.dead.map (deadOf mx g)).take g.dead.length = g.dead.map (deadOf mx g) := by
              rw [← List.length_map (f := deadOf mx g), List.take_length]
            rw [eL]
            have hsn' := hide hsn
            clear hsn eL hD hDz hyz hPz hy7 hP7 hlen
            go_wp2
            refine ⟨⟨k + 1, by omega, by simp, ?_, hb.trans (hbz.mono hb.size)⟩, by simp [intOf]; omega⟩
            rw [hsn'.out]
            simp
            omega
      · have hkl : k = mx.groups.length := by omega
        subst hkl
        rw [List.take_length] at hgc
        have hgt : mx.groups.take mx.groups.length = mx.groups := List.take_length
        obtain ⟨bo, bc, go, gc, c4, c5, c6, hR, lb⟩ := hy7.readB
        obtain ⟨F, hFl⟩ : ∃ F : Nat, mx.floor = F := ⟨mx.floor.toNat, by have := hf.ok.fl.1; omega⟩
        have hFb := hf.ok.fl.2
        rw [hFl] at c5
        have hFt : mx.floor.toNat = F := by omega
        rw [hFt] at hlen hkb
        generalize wr = wo at *
        go_wp2_with fail
        rw [hgt]
        go_loopw [3, 7] (fun u v wz => ∃ j : Nat, F + j ≤ mx.bodies.length ∧ v = .int .i64 (F + j : Nat) ∧ u = .int .i64 (64 + (grpCost mx mx.groups : Int) + (keptCost mx.groups.length ((mx.bodies.drop F).take j) : Nat)) ∧ Below wo.heap.size wo wz) (fun _ v _ => mx.bodies.length - (intOf v).toNat)
        case atStart => exact ⟨0, by omega, rfl, by simp [keptCost], Below.refl _ _⟩
        case round =>
          obtain ⟨j2, hj2, rfl, rfl, hbz⟩ := hrel
          have fz := step_below (fun _ => False) T6 hbz
          have hPz := hP7.step fz (fun h => h)
          have hyz := hy7.step fz (fun _ _ h => h)
          have lz := hPz.lt
          have ez := hPz.cell (j := 1) rfl
          have ez7 := hPz.cell (j := 7) rfl
          simp only [List.getElem_toArray, List.getElem_cons_succ, List.getElem_cons_zero] at ez ez7
          obtain ⟨bo2, bc2, go2, gc2, v4, v5, v6, hRz, lbz⟩ := hyz.readB
          have hkc := keptCost_le mx.groups.length ((mx.bodies.drop F).take j2) (fun x hx => hkb x (List.mem_of_mem_take hx))
          have hkc2 : keptCost mx.groups.length ((mx.bodies.drop F).take j2) ≤ 96 * 400 := by
            refine Nat.le_trans hkc (Nat.mul_le_mul (by omega) ?_)
            rw [List.length_take, List.length_drop]
            omega
          clear hkc
          by_cases hltj : F + j2 < mx.bodies.length
          · obtain ⟨bd, hbd⟩ : ∃ bd, mx.bodies[F + j2]? = some bd := ⟨_, List.getElem?_eq_getElem hltj⟩
            have hxd : (mx.bodies.drop F)[j2]? = some bd := by rw [List.getElem?_drop]; exact hbd
            have hb64 := hkb bd (List.mem_of_getElem? hxd)
            obtain ⟨gz, bc', e⟩ := row_some hRz (by omega)
            simp only [Value.slice.injEq] at e
            obtain ⟨rfl, _, _⟩ := e
            have tb : wr.cell? ⟨gz, F + j2, none⟩ = some (.string bd) := hRz.cell (by simp [hbd])
            have lrz := hRz.lt
            have eD := hide (keptCost_snoc (G := mx.groups.length) hxd)
            clear hxd hRz hyz hPz hy7 hP7 hlen hR
            go_wp2_with fail
            refine wp_region_over (by kernel_rfl) (by kernel_rfl) ?_
            repeat (go_big_quiet_step (fail))
            refine wpQuiet_nil ?_
            rintro _ ⟨x9, rfl⟩
            have hb9 := hbz.trans ((over_below wr x9).mono hbz.size)
            generalize over wr x9 = w9 at *
            go_wp2
            refine ⟨⟨j2 + 1, by omega, by simp; omega, ?_, hb9⟩, by simp [intOf]; omega⟩
            rw [eD.out]
            simp
            omega
          · have hjl : F + j2 = mx.bodies.length := by omega
            have eL : (mx.bodies.drop F).take j2 = mx.bodies.drop F := List.take_of_length_le (by rw [List.length_drop]; omega)
            rw [eL] at hkc2 ⊢
            have hle : (lg2.length : Int) ≤ 64 + (grpCost mx mx.groups : Int) + (keptCost mx.groups.length (mx.bodies.drop F) : Int) := by omega
            have hle' : decide ((lg2.length : Int) ≤ 64 + (grpCost mx mx.groups : Int) + (keptCost mx.groups.length (mx.bodies.drop F) : Int)) = true := by simp; omega
            go_wp2
            go_ret
            have f69 : Step (fun _ => False) w6 T6 wr T6 := (step_below (fun _ => False) T6 hb).trans fz
            have hx9 := (xl 0 (by decide)).step hx6 f69 (fun _ _ h => h)
            have hy9 := q4.step f69 (fun _ _ h => h)
            have hr9 := q5.step f69 (fun h => h)
            rw [hsz] at hr9
            have hB0 : 0 ≤ B := Int.le_trans hf.ok.time.1 hf.time
            have hfr : Fresh j w T := hj.back ((hs1.mono (fun _ h => .inl h)).trans (hs2.mono (fun _ h => .inr h)) : Step (fun t => XT i t ∨ t = .pair i) w T wk T1)
            refine ⟨by first | rfl | simp, T6, j, hfr, (((hs1.mono (fun _ h => .inl (.inl h))).trans (hs2.mono (fun _ h => .inr (.inl h)))).trans (q1.mono cpA_one)).trans (f69.mono (fun _ h => h.elim)), .slice (some ⟨g6, 0, none⟩) 1 1, mx, (sm2, lg2), [⟨j, p5, mx, (sm2, lg2)⟩], ⟨bx, yb, mx, hPz, ⟨rfl, hx9⟩, hyz, hf⟩, ⟨hr9, ?_, ?_, [], _, rfl, rfl⟩, ?_⟩
            · intro s hs
              obtain rfl := List.mem_singleton.1 hs
              exact ⟨hj.1, hy9, sok_of hx9 hf⟩
            · intro k a b _ h2
              simp at h2
            · simp
              omega

end Go.Proofs.YtockkceclkcgbaaGreatDoor

/- The contract of step at Compact. -/
namespace Go.Proofs.YtockkceclkcgbaaGreatDoor
open Go.RowKit

attribute [local go_sem] over_cell

set_option maxRecDepth 100000 in
set_option maxHeartbeats 4000000 in
theorem stepA_comp {B : Int} {a0 a1 : Addr} (hlm : B ≤ 100000000000) (wb : Nat) (c d : Conf) (ps : List Nat) (q q' : Nat) (qu : Int) (nm bd : ByteArray) (n tr ms : Int) (yes : Bool) (w : World) (T : Nat → Tag) (hw : WA B a0 a1 w T wb c d 14 ps q q') (hqu : i64 qu) (hpos : 0 < ps.length) :
    Calls Tryz.prog 16 #[.pointer (some ⟨wb, 0, none⟩), .agg (opCells 14 qu nm bd n tr ms yes)] w (StepA B a0 a1 w T wb c d ps q q') := by
  have hlen := hw.few
  have hw0 := hw
  obtain ⟨vP, vr, vd, hB, hR, _, _⟩ := hw.blk
  obtain ⟨gb, gc, rfl⟩ := row_some hR hpos
  obtain ⟨k, hk⟩ : ∃ k : Nat, pickQ qu ps.length = k := ⟨(pickQ qu ps.length).toNat, by have := pickQ_range qu ps.length (by omega); omega⟩
  have hkl : k < ps.length := by have := pickQ_range qu ps.length (by omega); omega
  obtain ⟨p, hp⟩ : ∃ p, ps[k]? = some p := ⟨_, List.getElem?_eq_getElem hkl⟩
  have hpick : ∀ w1 : World, Calls Tryz.prog 38 #[.int .i64 qu, .int .i64 (ps.length : Int)] w1 fun e w' => e = .returned (.int .i64 (k : Int)) ∧ Below w1.heap.size w1 w' := fun w1 => by
    rw [← hk]; exact pickq_any qu ps.length w1 hqu.1 hqu.2 (by omega) (by omega)
  have l0 := hB.lt
  have lr := hR.lt
  have k8 := hB.cell (j := 8) rfl
  have k11 := hB.cell (j := 11) rfl
  simp only [List.getElem_toArray, List.getElem_cons_succ, List.getElem_cons_zero] at k8 k11
  have kp : w.cell? ⟨gb, k, none⟩ = some (.pointer (some ⟨p, 0, none⟩)) := hR.cell (by simp [hp, ptrV])
  clear hB hR hk hw
  -- the step's own block
  have a1 : Step (fun _ => False) w T (w.alloc (.cells (opCells 14 qu nm bd n tr ms yes) 46)) (retag T w.heap.size .free) := step_new w T _ .free _
  have hO : Blk (w.alloc (.cells (opCells 14 qu nm bd n tr ms yes) 46)) (retag T w.heap.size .free) .free w.heap.size (opCells 14 qu nm bd n tr ms yes) 46 := (blk_new w T _ 46 .free)
  have l1 : wb < (w.alloc (.cells (opCells 14 qu nm bd n tr ms yes) 46)).heap.size := by simp; omega
  have l2 : w.heap.size < (w.alloc (.cells (opCells 14 qu nm bd n tr ms yes) 46)).heap.size := by simp
  go_enter Tryz.func16, Tryz.ntmps16
  go_wp2_with fail
  refine wp_region_over (by kernel_rfl) (by kernel_rfl) ?_
  repeat (go_big_quiet_step (fail))
  refine wpQuiet_nil ?_
  rintro _ ⟨x, rfl⟩
  have hb := over_below (w.alloc (.cells (opCells 14 qu nm bd n tr ms yes) 46)) x
  generalize over (w.alloc (.cells (opCells 14 qu nm bd n tr ms yes) 46)) x = w2 at *
  have f2 : Step (fun _ => False) w T w2 (retag T w.heap.size .free) := a1.trans (step_below _ _ hb)
  have hO2 := hO.step (step_below (fun _ => False) _ hb) (fun h => h)
  have b2 : Below w.heap.size w w2 := ((Below.refl _ _).alloc (Nat.le_refl _) _).trans (hb.mono (by simp))
  have j8 := (b2.cell (p := ⟨wb, 8, none⟩) l0).trans k8
  have j11 := (b2.cell (p := ⟨wb, 11, none⟩) l0).trans k11
  have jp := (b2.cell (p := ⟨gb, k, none⟩) lr).trans kp
  have ml0 := Nat.lt_of_lt_of_le l0 b2.size
  have mlr := Nat.lt_of_lt_of_le lr b2.size
  have mlo := hO2.lt
  have o0 := hO2.cell (j := 0) rfl
  have o1 := hO2.cell (j := 1) rfl
  simp only [List.getElem_toArray, List.getElem_cons_succ, List.getElem_cons_zero] at o0 o1
  clear k8 k11 kp l0 lr l1 l2 hb a1 hO
  go_wp2_with fail
  refine wp_region_over (by kernel_rfl) (by kernel_rfl) ?_
  repeat (go_big_quiet_step ((go_at_call 38; exact quiet_over hpick)))
  refine wpQuiet_nil ?_
  rintro _ ⟨x3, rfl⟩
  have hb3 := over_below w2 x3
  generalize over w2 x3 = w3 at *
  have hO3 := hO2.step (step_below (fun _ => False) _ hb3) (fun h => h)
  have f3 : Step (fun _ => False) w T w3 (retag T w.heap.size .free) := f2.trans (step_below _ _ hb3)
  have r0 := hO3.cell (j := 0) rfl
  have r4 := hO3.cell (j := 4) rfl
  simp only [List.getElem_toArray, List.getElem_cons_succ, List.getElem_cons_zero] at r0 r4
  have hw3 := hw0.step f3 (fun _ h => h)
  have hkH : k < HI := by unfold HI; omega
  have hcall := compacted_any (B := B) (a0 := a0) (a1 := a1) k p w3 _ hkH (hw3.prs k p hp) hw3.laid (by omega)
  clear j8 j11 jp ml0 mlr mlo o0 o1 hb3 hO2 hO3 f2 b2 hpick
  go_wp2_with fail
  refine hcall.mono ?_
  clear hcall
  rintro e w5 ⟨rfl, T5, j, hj, hs5, hp5⟩
  go_wp2
  go_ret
  refine ⟨rfl, T5, ps, q, q', (f3.mono (fun _ h => h.elim)).trans (hs5.mono (fun t ht => one_old ht)), ?_, Nat.le_refl _, Nat.le_succ _, by omega, by omega⟩
  exact WA.one (show B ≤ B + 60000 by omega) hw3.blk hw3.laid hlen (fun i x _ hi => hw3.prs i x hi) hj hs5 hp (hp5.mono (by omega))

end Go.Proofs.YtockkceclkcgbaaGreatDoor

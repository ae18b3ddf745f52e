/- The contract of the program's Retain, over the document's queue that it tells. -/
import Derived.Test.YtgcbooflhdjnhaaT29
namespace Go.Proofs.Ytgcbooflhdjnhaa
open Go.RowKit Go.Maps

/-- the least of all marks -/
theorem least_spec (m : MQ) : ∀ n, n ≤ m.groups.length → (∀ k g, k < n → m.groups[k]? = some g → leastTo m n ≤ markOf g) ∧ (leastTo m n = m.bodies.length ∨ ∃ k g, k < n ∧ m.groups[k]? = some g ∧ leastTo m n = markOf g)
  | 0, _ => ⟨fun k g h => by omega, .inl rfl⟩
  | n + 1, h => by
    obtain ⟨i1, i2⟩ := least_spec m n (by omega)
    obtain ⟨g, hg⟩ : ∃ g, m.groups[n]? = some g := ⟨_, List.getElem?_eq_getElem (by omega)⟩
    rw [leastTo_step hg]
    refine ⟨fun k g' hk hg' => ?_, ?_⟩
    · by_cases hkn : k = n
      · subst hkn
        rw [hg] at hg'
        cases hg'
        exact Nat.min_le_right _ _
      · exact Nat.le_trans (Nat.min_le_left _ _) (i1 k g' (by omega) hg')
    · rcases Nat.le_total (leastTo m n) (markOf g) with hle | hle
      · rw [Nat.min_eq_left hle]
        rcases i2 with h2 | ⟨k, g', hk, hg', e⟩
        · exact .inl h2
        · exact .inr ⟨k, g', by omega, hg', e⟩
      · rw [Nat.min_eq_right hle]
        exact .inr ⟨n, g, by omega, hg, rfl⟩
/-- what the loop over the groups has found -/
def MarkIs (m : MQ) (left : Lit → Bool) (mk : Nat) : Prop :=
  mk ≤ m.bodies.length ∧ (∀ (k : Nat) (g : MG), m.groups[k]? = some g → left (keyL g.name) = false → mk ≤ markOf g) ∧ (mk = m.bodies.length ∨ ∃ (k : Nat) (g : MG), m.groups[k]? = some g ∧ left (keyL g.name) = false ∧ mk = markOf g)
theorem MarkIs.end {m : MQ} {left : Lit → Bool} {mk : Nat} (h : MarkIs m left mk) (hl : ∀ kl, left kl = false) : mk = leastTo m m.groups.length := by
  obtain ⟨h1, h2, h3⟩ := h
  obtain ⟨i1, i2⟩ := least_spec m m.groups.length (Nat.le_refl _)
  have i3 := leastTo_le m m.groups.length
  apply Nat.le_antisymm
  · rcases i2 with e | ⟨k, g, _, hg, e⟩
    · omega
    · rw [e]; exact h2 k g hg (hl _)
  · rcases h3 with e | ⟨k, g, hg, _, e⟩
    · omega
    · rw [e]; exact i1 k g (List.getElem?_eq_some_iff.1 hg).1 hg

theorem setCells_at (g : Nat) (e : TypeId) : ∀ (vs : List Value) (o : Nat) (w : World) (cur : Array Value), w.heap[g]? = some (.cells cur e (0, 0)) →
    ∃ cur', (w.setCells g o vs).heap[g]? = some (.cells cur' e (0, 0)) ∧ cur'.size = cur.size ∧ ∀ j, (j < o ∨ o + vs.length ≤ j) → cur'[j]? = cur[j]?
  | [], _, w, cur, h => ⟨cur, h, rfl, fun _ _ => rfl⟩
  | v :: vs, o, w, cur, h => by
    obtain ⟨cur', h1, h2, h3⟩ := setCells_at g e vs (o + 1) (w.setCell ⟨g, o, none⟩ v) (cur.setIfInBounds o v) (heap_setCell_same w g o cur e v h)
    refine ⟨cur', h1, by simpa using h2, fun j hj => ?_⟩
    rw [h3 j (by simp at hj; omega), Array.getElem?_setIfInBounds_ne (by simp at hj; omega)]
theorem setCells_step (g : Nat) (T : Nat → Tag) (t : Tag) (hT : T g = t) : ∀ (vs : List Value) (o : Nat) (w : World), Step (fun s => s = t) w T (w.setCells g o vs) T
  | [], _, _ => Step.refl _ _ _
  | v :: vs, o, w => (step_setCell w T g o v (S := fun s => s = t) hT).trans (setCells_step g T t hT vs (o + 1) _)

/-- the first ones of the list are cleared and cut off -/
theorem Sub.cut {w : World} {T : Nat → Tag} {t : Tag} {g off cap n : Nat} {xs : List Value} (h : Sub w T t (.slice (some ⟨g, off, none⟩) xs.length cap) xs) (h0 : 0 < n) (hn : n ≤ xs.length) (vs : List Value) (hv : vs.length = n) :
    Sub (w.setCells g off vs) T t (.slice (if cap = n then some ⟨g, off, none⟩ else some ⟨g, off + n, none⟩) (xs.length - n) (cap - n)) (xs.drop n) ∧ Step (fun s => s = t) w T (w.setCells g off vs) T := by
  obtain ⟨ao, cap', e, hc, hrest⟩ := h
  cases e
  rcases hrest with hz | ⟨g', off', cur, e, hT, hg, hs, hx⟩
  · omega
  · cases e
    obtain ⟨cur', h1, h2, h3⟩ := setCells_at g 9 vs off w cur hg
    refine ⟨⟨if cap = n then some ⟨g, off, none⟩ else some ⟨g, off + n, none⟩, cap - n, by simp, by simp; omega, ?_⟩, setCells_step g T t hT vs off w⟩
    by_cases hcn : cap = n
    · exact .inl (by omega)
    · refine .inr ⟨g, off + n, cur', by simp [hcn], hT, h1, by omega, ?_⟩
      apply List.ext_getElem?
      intro j
      simp only [List.length_drop, List.getElem?_take, List.getElem?_drop, Array.getElem?_toList]
      rw [h3 _ (by omega)]
      have hj : ∀ q, q < xs.length → cur[off + q]? = xs[q]? := fun q hq => by
        have := congrArg (fun l => l[q]?) hx
        simpa [List.getElem?_take, List.getElem?_drop, hq] using this
      by_cases hlt : j < xs.length - n
      · rw [if_pos hlt, ← hj (n + j) (by omega)]
        congr 1
        omega
      · rw [if_neg hlt, List.getElem?_eq_none (by omega)]

/-- where the floor goes, in the program's words -/
theorem retain_words (m : MQ) (mk : Nat) (h : mk = leastTo m m.groups.length) (hs : 1 ≤ m.c.s) : ∃ Fn : Nat, retainTo m = Fn ∧ (mk : Int) - (mk : Int) % m.c.s = Fn ∧ Fn ≤ mk ∧ 0 ≤ (mk : Int) % m.c.s ∧ (mk : Int) % m.c.s ≤ mk := by
  have h1 : m.c.s * ((mk : Int) / m.c.s) + (mk : Int) % m.c.s = mk := by first | exact Int.ediv_add_emod _ _ | exact Int.mul_ediv_add_emod _ _
  have h2 : 0 ≤ (mk : Int) % m.c.s := Int.emod_nonneg _ (by omega)
  have h3 : 0 ≤ m.c.s * ((mk : Int) / m.c.s) := Int.mul_nonneg (by omega) (Int.ediv_nonneg (by omega) (by omega))
  have h4 : retainTo m = m.c.s * ((mk : Int) / m.c.s) := by
    unfold retainTo
    rw [← h, Int.tdiv_eq_ediv_of_nonneg (by omega), Int.mul_comm]
  exact ⟨(m.c.s * ((mk : Int) / m.c.s)).toNat, by omega, by omega, by omega, h2, by omega⟩

theorem zeroS (w : World) : (zeroValue 9).run Try.prog w = .ok (.string ⟨#[]⟩) w := by kernel_rfl

set_option maxRecDepth 100000 in
set_option maxHeartbeats 1000000 in
theorem xretain_any (i b : Nat) (m : MQ) (w : World) (T : Nat → Tag) (hx : X w T i b m) (hok : m.Ok) :
    Calls Try.prog 72 #[.pointer (some ⟨b, 0, none⟩)] w fun e w' => e = .returned (.int .i64 (retainN m)) ∧ ∃ T', Step (XT i) w T w' T' ∧ X w' T' i b (retainM m) := by
  have hsm := hx.small
  have hl6 := hx.few
  have hfl := hok.fl
  have hgood := good_seg hok.good
  obtain ⟨vB, mb, f, ps, hB, hS, hN, hG, _⟩ := hx.find
  have lb := hB.lt
  have c7 := hB.cell (j := 7) rfl
  simp only [List.getElem_toArray, List.getElem_cons_succ, List.getElem_cons_zero] at c7
  have hnl : m.names.length = m.groups.length := by simp [MQ.names]
  have hml := hN.len
  rw [hnl] at hml
  by_cases h0 : m.groups.length = 0
  · have eN : Hid (retainN m = 0) := hide (by simp [retainN, retainB, h0])
    have eM : retainM m = m := by simp [retainM, retainB, h0]
    rw [h0] at hml
    go_enter Try.func72, Try.ntmps72
    go_wp2
    go_ret
    exact ⟨by rw [eN.out]; rfl, T, Step.refl _ _ _, by rw [eM]; exact hx⟩
  go_enter Try.func72, Try.ntmps72
  go_wp2_with fail
  refine (xend_any i b m w T hx hok).mono ?_
  rintro e w1 ⟨rfl, hb1⟩
  have g1 := step_below (fun _ => False) T hb1
  have f1 : Step (XT i) w T w1 T := step_below _ T hb1
  replace hx := hx.below hb1
  replace hB := hB.step g1 (fun h => h)
  replace hS := hS.step g1 (fun h => h)
  replace hN := hN.step g1 (fun h => h)
  replace hG : ∀ k g, m.groups[k]? = some g → GM w1 T i k (f k) (ps k) ∧ RelG m g (ps k) := fun k g h => ⟨(hG k g h).1.step g1 (fun _ _ h => h), (hG k g h).2⟩
  clear lb c7 hml g1 hb1
  have lb := hB.lt
  have c7 := hB.cell (j := 7) rfl
  simp only [List.getElem_toArray, List.getElem_cons_succ, List.getElem_cons_zero] at c7
  have hNk := hN
  obtain ⟨hTm, n, D, hown, hsz, hhas, hat⟩ := hN
  go_wp2_with (first
    | (at_range; refine wpList_range_own _ rfl _ 103 rfl 9 127 law9 Try.underlying103 _ mb n _ rfl hown ?_; intro w3 hrg0 hg0 hs0)
    | go_in)
  go_frame
  generalize hrr : w1.heap.size = r at *
  have h3 : Step (fun _ => False) w1 T w3 (retag T r .free) := step_grown hg0 (fun k hk => by cases hk) (fun k hk => retag_other T r .free (by omega))
  go_loopw [3] (fun u3 wr => ∃ (left : Lit → Bool) (cnt : Nat) (T' : Nat → Tag) (mk : Nat), u3 = .int .i64 mk ∧ wr.ranges Try.prog 9 ptrElem mb r n D left cnt ∧ Step (fun _ => False) w1 T wr T' ∧ T' r = .free ∧ MarkIs m left mk) (fun _ wr => wr.rangeLeft mb r)
  case atStart =>
    refine ⟨_, _, retag T r .free, m.bodies.length, rfl, hrg0, h3, retag_same _ _ _, Nat.le_refl _, fun k g hg hl => ?_, .inl rfl⟩
    have hidx : (idx g.name m.names).isSome = true := by
      cases hi : idx g.name m.names with
      | some _ => rfl
      | none => exact absurd (by rw [MQ.names]; exact List.mem_map.2 ⟨g, List.mem_of_getElem? hg, rfl⟩) (idx_none.1 hi)
    rw [hhas, hidx] at hl
    cases hl
  case round =>
    obtain ⟨left, cnt, T', mk, rfl, hrg, hs, hTr, hmk⟩ := hrel
    clear hrg0 hg0 hs0 h3
    go_wp2_with (first
      | (at_next; refine wpList_next_groups _ rfl _ rfl mb r n _ _ _ m.names f hhas hat rfl hrg ?_ ?_)
      | go_in)
    · intro _ hl0
      have hle := hmk.1
      obtain ⟨Fn, eF, hsub1, hFm, hR0, hR1⟩ := retain_words m mk (hmk.end hl0) hgood.1
      replace eF := hide eF
      clear hmk
      obtain ⟨R, hR⟩ : ∃ R, (mk : Int) % m.c.s = R := ⟨_, rfl⟩
      rw [hR] at hsub1 hR0 hR1
      have hBr := hB.step hs (fun h => h)
      have hSr := hS.step hs (fun h => h)
      have hNr := hNk.step hs (fun h => h)
      have hGr : ∀ k g, m.groups[k]? = some g → GM wr T' i k (f k) (ps k) ∧ RelG m g (ps k) := fun k g h => ⟨(hG k g h).1.step hs (fun _ _ h => h), (hG k g h).2⟩
      have lr := hBr.lt
      have c2 := hBr.cell (j := 2) rfl
      have c5 := hBr.cell (j := 5) rfl
      simp only [List.getElem_toArray, List.getElem_cons_succ, List.getElem_cons_zero] at c2 c5
      by_cases hle2 : (Fn : Int) ≤ m.floor
      · have eN : Hid (retainN m = 0) := hide (by simp [retainN, retainB, h0, eF.out, hle2])
        have eM : retainM m = m := by simp [retainM, retainB, h0, eF.out, hle2]
        go_wp2
        go_ret
        exact ⟨by rw [eN.out]; rfl, T', f1.trans (hs.mono (fun _ h => h.elim)), by rw [eM]; exact hx.step hs (fun _ _ h => h)⟩
      · obtain ⟨Gn, hsub2⟩ : ∃ Gn : Nat, (Fn : Int) - m.floor = Gn := ⟨((Fn : Int) - m.floor).toNat, by omega⟩
        have eN : Hid (retainN m = Gn) := hide (by simp [retainN, retainB, h0, eF.out, hle2]; omega)
        have eM : Hid (retainM m = { m with floor := Fn, changes := wrap64 (m.changes + 1) }) := hide (by simp [retainM, retainB, h0, eF.out, hle2])
        have hfG : (Fn : Int).toNat = m.floor.toNat + Gn := by omega
        have hFn : Fn ≤ 400 := by omega
        have hG4 : Gn ≤ 400 := by omega
        have hG0 : 0 < Gn := by omega
        obtain ⟨K, hK⟩ : ∃ K, Hid (K = m.bodies.length - m.floor.toNat) := ⟨_, hide rfl⟩
        have hlx : ((m.bodies.drop m.floor.toNat).map Value.string).length = K := by rw [hK.out]; simp
        have hGK : Gn ≤ K := by have := hK.out; omega
        have hK4 : K ≤ 400 := by have := hK.out; omega
        have hSk := hSr
        obtain ⟨ao, cap, rfl, hcap, hrest⟩ := hSr
        rw [hlx] at hBr hcap
        rcases hrest with hz | ⟨gb, off, cur, rfl, hTg, hgb, hcs, hxs⟩
        · omega
        have hcut := hSk.cut (n := Gn) hG0 (by rw [hlx]; exact hGK) (List.replicate Gn (.string ⟨#[]⟩)) (by simp)
        rw [hlx] at hcut
        have hcl : ∀ ty, (Builtin.clear_ #[75] ty #[.slice (some ⟨gb, off, none⟩) Gn cap]).run Try.prog wr = .ok (.tuple #[]) (wr.setCells gb off (List.replicate Gn (.string ⟨#[]⟩))) := fun ty =>
          Lib.run_clear_slice wr 75 9 ty (.string ⟨#[]⟩) Try.underlying75 zeroS rfl rfl gb off Gn cap hG0 (fun j hj => by
            have hlt : off + j < cur.size := by omega
            simp [World.cell?, hgb, hlt]) (fun j hj => by simp [World.frozen?, hgb])
        have c6 := hBr.cell (j := 6) rfl
        simp only [List.getElem_toArray, List.getElem_cons_succ, List.getElem_cons_zero] at c6
        go_upto_region 13 with (fail)
        obtain ⟨hS5, hs5⟩ := hcut
        clear hcl c6 c5 c2 lr
        generalize wr.setCells gb off (List.replicate Gn (.string ⟨#[]⟩)) = w5 at *
        have hB5 := hBr.step hs5 (by simp)
        have l5 := hB5.lt
        have d5 := hB5.cell (j := 5) rfl
        have d6 := hB5.cell (j := 6) rfl
        have z5 := hB5.frozen 5
        have z6 := hB5.frozen 6
        simp only [List.getElem_toArray, List.getElem_cons_succ, List.getElem_cons_zero] at d5 d6
        have hdrop : ((m.bodies.drop m.floor.toNat).map Value.string).drop Gn = (m.bodies.drop (Fn : Int).toNat).map Value.string := by
          rw [← List.map_drop, List.drop_drop, hfG]
        rw [hdrop] at hS5
        have hfin : ∀ vB', Sub w5 T' (.q i 1 0) vB' ((m.bodies.drop (Fn : Int).toNat).map Value.string) → Step (XT i) w T ((w5.setCell ⟨b, 6, none⟩ vB').setCell ⟨b, 5, none⟩ (.int .i64 Fn)) T' ∧ X ((w5.setCell ⟨b, 6, none⟩ vB').setCell ⟨b, 5, none⟩ (.int .i64 Fn)) T' i b (retainM m) := by
          intro vB' hSv
          have s6 : Step (fun t => t = .q i 0 0) w5 T' ((w5.setCell ⟨b, 6, none⟩ vB').setCell ⟨b, 5, none⟩ (.int .i64 Fn)) T' := (step_setCell w5 T' b 6 _ (S := fun t => t = .q i 0 0) hB5.1).trans (step_setCell _ T' b 5 _ (S := fun t => t = .q i 0 0) hB5.1)
          have s56 : Step (fun t => t = .q i 0 0 ∨ t = .q i 1 0) wr T' ((w5.setCell ⟨b, 6, none⟩ vB').setCell ⟨b, 5, none⟩ (.int .i64 Fn)) T' := (hs5.mono (fun _ h => .inr h)).trans (s6.mono (fun _ h => .inl h))
          refine ⟨f1.trans ((hs.mono (fun _ h => h.elim)).trans (s56.mono (fun t h => by rcases h with rfl | rfl <;> exact ⟨rfl, rfl⟩))), ?_⟩
          rw [eM.out]
          refine ⟨hsm, hl6, hx.nodup, hx.short, fun g hg => (hx.inv g hg).same rfl rfl, vB', mb, f, ps, (hB5.set 6 vB').set 5 (.int .i64 Fn), hSv.step s6 (by simp), hNr.step s56 (by simp), fun k g hg => ⟨(hGr k g hg).1.step s56 (by intro r hr; simp; omega), (hGr k g hg).2.same rfl rfl⟩⟩
        by_cases hcg : cap = Gn
        · have hfin2 := hfin _ hS5
          simp only [hcg, if_true] at hfin2
          subst hcg
          simp only [show K - cap = 0 by omega, Nat.sub_self] at hfin2
          go_wp2
          go_ret
          exact ⟨by rw [eN.out]; rfl, T', hfin2⟩
        · have hfin2 := hfin _ hS5
          simp only [hcg, if_false] at hfin2
          go_wp2
          go_ret
          exact ⟨by rw [eN.out]; rfl, T', hfin2⟩
    · intro x j w4 cnt4 hj hlx hrg4 hlt hg4 hs4 hen
      have g4 : Step (fun t => t = .free) wr T' w4 T' := step_grown hg4 (fun k hk => by cases hk; exact hTr) (fun _ _ => rfl)
      obtain ⟨gj, hgj, hgn⟩ := at_group (m := m) (s := x) (k := j) hj.out
      have hGj := ((hG j gj hgj).1.step hs (fun _ _ h => h)).step g4 (by simp)
      have hr := (hG j gj hgj).2
      have hst := hok.start gj (List.mem_of_getElem? hgj)
      have hs14 : Step (fun _ => False) w1 T w4 T' := hs.grownNew (by omega) hg4
      have hgm : gapI (ps j).done (ps j).start = (markOf gj : Nat) := by
        rw [hr.start]
        obtain ⟨a, ha⟩ : ∃ a : Nat, gj.start = a := ⟨gj.start.toNat, by omega⟩
        rw [ha, gap_mark hr.set hr.done, markOf, ha]
        rfl
      have hmm := (hmk.1)
      go_wp2_with fail
      refine (mark_any i j (f j) (ps j) w4 T' hGj hr.set (by rw [hr.start]; omega) (by rw [hr.start]; omega)).mono ?_
      rintro e w5 ⟨rfl, hb5⟩
      rw [hgm]
      have hrg5 := ranges_step hrg4 (step_below (fun _ => False) T' hb5) (fun h => h) (fun h => h)
      have hs15 := hs14.trans (step_below (fun _ => False) T' hb5)
      have hmk2 : MarkIs m (fun z => left z && !z.sameKey (keyL x)) (min mk (markOf gj)) := by
        obtain ⟨m1, m2, m3⟩ := hmk
        refine ⟨by omega, fun k g hg hl => ?_, ?_⟩
        · by_cases hgx : g.name = x
          · have h1 : m.names[k]? = some x := by simp [MQ.names, hg, hgx]
            have h2 : m.names[j]? = some x := by simp [MQ.names, hgj, hgn]
            have e := (List.getElem?_inj (List.getElem?_eq_some_iff.1 h1).1 hx.nodup).1 (h1.trans h2.symm)
            subst e
            rw [hgj] at hg
            cases hg
            omega
          · simp only [same_str hgx, Bool.not_false, Bool.and_true] at hl
            have := m2 k g hg hl
            omega
        · rcases Nat.le_total mk (markOf gj) with hle | hle
          · rw [Nat.min_eq_left hle]
            rcases m3 with e | ⟨k, g, hg, hl, e⟩
            · exact .inl e
            · exact .inr ⟨k, g, hg, by simp [hl], e⟩
          · rw [Nat.min_eq_right hle]
            exact .inr ⟨j, gj, hgj, by simp [hgn, same_str_self], rfl⟩
      generalize markOf gj = mg at *
      clear hmk hgm
      go_wp2
      all_goals
        refine ⟨⟨_, cnt4, T', min mk mg, ?_, hrg5, hs15, hTr, hmk2⟩, by rw [hrg5.left_eq, hrg.left_eq]; exact hlt⟩
        congr 1
        omega

end Go.Proofs.Ytgcbooflhdjnhaa

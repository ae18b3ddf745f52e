/- The contract of the program's Retain, over the document's queue that it tells. -/
import Derived.Test.YtockkceclkcgbaaGreatDoorB31
namespace Go.Proofs.YtockkceclkcgbaaGreatDoor
open Go.RowKit Go.Maps
variable {vL vS : Value} {lg : Bs}

/-- the least of all marks -/
theorem least_spec (m : MQ) : ∀ n, n ≤ m.groups.length → (∀ k g, k < n → m.groups[k]? = some g → leastTo m n ≤ markOf g) ∧ (leastTo m n = m.bodies.length ∨ ∃ k g, k < n ∧ m.groups[k]? = some g ∧ leastTo m n = markOf g)
  | 0, _ => ⟨fun k g h => by omega, .inl rfl⟩
  | n + 1, h => by
    obtain ⟨i1, i2⟩ := least_spec m n (by omega)
    obtain ⟨g, hg⟩ : ∃ g, m.groups[n]? = some g := ⟨_, List.getElem?_eq_getElem (by omega)⟩
    rw [leastTo_step hg]
    refine ⟨fun k g' hk hg' => ?_, ?_⟩
    · by_cases hkn : k = n
      · subst hkn
        rw [hg] at hg'
        cases hg'
        exact Nat.min_le_right _ _
      · exact Nat.le_trans (Nat.min_le_left _ _) (i1 k g' (by omega) hg')
    · rcases Nat.le_total (leastTo m n) (markOf g) with hle | hle
      · rw [Nat.min_eq_left hle]
        rcases i2 with h2 | ⟨k, g', hk, hg', e⟩
        · exact .inl h2
        · exact .inr ⟨k, g', by omega, hg', e⟩
      · rw [Nat.min_eq_right hle]
        exact .inr ⟨n, g, by omega, hg, rfl⟩
/-- what the loop over the groups has found -/
def MarkIs (m : MQ) (left : Lit → Bool) (mk : Nat) : Prop :=
  mk ≤ m.bodies.length ∧ (∀ (k : Nat) (g : MG), m.groups[k]? = some g → left (keyL g.name) = false → mk ≤ markOf g) ∧ (mk = m.bodies.length ∨ ∃ (k : Nat) (g : MG), m.groups[k]? = some g ∧ left (keyL g.name) = false ∧ mk = markOf g)
theorem MarkIs.end {m : MQ} {left : Lit → Bool} {mk : Nat} (h : MarkIs m left mk) (hl : ∀ kl, left kl = false) : mk = leastTo m m.groups.length := by
  obtain ⟨h1, h2, h3⟩ := h
  obtain ⟨i1, i2⟩ := least_spec m m.groups.length (Nat.le_refl _)
  have i3 := leastTo_le m m.groups.length
  apply Nat.le_antisymm
  · rcases i2 with e | ⟨k, g, _, hg, e⟩
    · omega
    · rw [e]; exact h2 k g hg (hl _)
  · rcases h3 with e | ⟨k, g, hg, _, e⟩
    · omega
    · rw [e]; exact i1 k g (List.getElem?_eq_some_iff.1 hg).1 hg

theorem setCells_at (g : Nat) (e : TypeId) : ∀ (vs : List Value) (o : Nat) (w : World) (cur : Array Value), w.heap[g]? = some (.cells cur e (0, 0)) →
    ∃ cur', (w.setCells g o vs).heap[g]? = some (.cells cur' e (0, 0)) ∧ cur'.size = cur.size ∧ ∀ j, (j < o ∨ o + vs.length ≤ j) → cur'[j]? = cur[j]?
  | [], _, w, cur, h => ⟨cur, h, rfl, fun _ _ => rfl⟩
  | v :: vs, o, w, cur, h => by
    obtain ⟨cur', h1, h2, h3⟩ := setCells_at g e vs (o + 1) (w.setCell ⟨g, o, none⟩ v) (cur.setIfInBounds o v) (heap_setCell_same w g o cur e v h)
    refine ⟨cur', h1, by simpa using h2, fun j hj => ?_⟩
    rw [h3 j (by simp at hj; omega), Array.getElem?_setIfInBounds_ne (by simp at hj; omega)]
theorem setCells_step (g : Nat) (T : Nat → Tag) (t : Tag) (hT : T g = t) : ∀ (vs : List Value) (o : Nat) (w : World), Step (fun s => s = t) w T (w.setCells g o vs) T
  | [], _, _ => Step.refl _ _ _
  | v :: vs, o, w => (step_setCell w T g o v (S := fun s => s = t) hT).trans (setCells_step g T t hT vs (o + 1) _)

/-- the first ones of the list are cleared and cut off -/
theorem Sub.cut {w : World} {T : Nat → Tag} {t : Tag} {g off cap n : Nat} {xs : List Value} (h : Sub w T t (.slice (some ⟨g, off, none⟩) xs.length cap) xs) (h0 : 0 < n) (hn : n ≤ xs.length) (vs : List Value) (hv : vs.length = n) :
    Sub (w.setCells g off vs) T t (.slice (if cap = n then some ⟨g, off, none⟩ else some ⟨g, off + n, none⟩) (xs.length - n) (cap - n)) (xs.drop n) ∧ Step (fun s => s = t) w T (w.setCells g off vs) T := by
  obtain ⟨ao, cap', e, hc, hrest⟩ := h
  cases e
  rcases hrest with hz | ⟨g', off', cur, e, hT, hg, hs, hx⟩
  · omega
  · cases e
    obtain ⟨cur', h1, h2, h3⟩ := setCells_at g 9 vs off w cur hg
    refine ⟨⟨if cap = n then some ⟨g, off, none⟩ else some ⟨g, off + n, none⟩, cap - n, by simp, by simp; omega, ?_⟩, setCells_step g T t hT vs off w⟩
    by_cases hcn : cap = n
    · exact .inl (by omega)
    · refine .inr ⟨g, off + n, cur', by simp [hcn], hT, h1, by omega, ?_⟩
      apply List.ext_getElem?
      intro j
      simp only [List.length_drop, List.getElem?_take, List.getElem?_drop, Array.getElem?_toList]
      rw [h3 _ (by omega)]
      have hj : ∀ q, q < xs.length → cur[off + q]? = xs[q]? := fun q hq => by
        have := congrArg (fun l => l[q]?) hx
        simpa [List.getElem?_take, List.getElem?_drop, hq] using this
      by_cases hlt : j < xs.length - n
      · rw [if_pos hlt, ← hj (n + j) (by omega)]
        congr 1
        omega
      · rw [if_neg hlt, List.getElem?_eq_none (by omega)]

/-- where the floor goes, in the program's words -/
theorem retain_words (m : MQ) (mk : Nat) (h : mk = leastTo m m.groups.length) (hs : 1 ≤ m.c.s) : ∃ Fn : Nat, retainTo m = Fn ∧ (mk : Int) - (mk : Int) % m.c.s = Fn ∧ Fn ≤ mk ∧ 0 ≤ (mk : Int) % m.c.s ∧ (mk : Int) % m.c.s ≤ mk := by
  have h1 : m.c.s * ((mk : Int) / m.c.s) + (mk : Int) % m.c.s = mk := by first | exact Int.ediv_add_emod _ _ | exact Int.mul_ediv_add_emod _ _
  have h2 : 0 ≤ (mk : Int) % m.c.s := Int.emod_nonneg _ (by omega)
  have h3 : 0 ≤ m.c.s * ((mk : Int) / m.c.s) := Int.mul_nonneg (by omega) (Int.ediv_nonneg (by omega) (by omega))
  have h4 : retainTo m = m.c.s * ((mk : Int) / m.c.s) := by
    unfold retainTo
    rw [← h, Int.tdiv_eq_ediv_of_nonneg (by omega), Int.mul_comm]
  exact ⟨(m.c.s * ((mk : Int) / m.c.s)).toNat, by omega, by omega, by omega, h2, by omega⟩

theorem zeroS (w : World) : (zeroValue 9).run Tryz.prog w = .ok (.string ⟨#[]⟩) w := by kernel_rfl

/-- the least of the first k marks and the end -/
def leastX (n : Int) (mk : Nat → Int) : Nat → Int
  | 0 => n
  | k + 1 => min (leastX n mk k) (mk k)
theorem leastX_spec (n : Int) (mk : Nat → Int) : ∀ K, leastX n mk K ≤ n ∧ (∀ k, k < K → leastX n mk K ≤ mk k) ∧ (leastX n mk K = n ∨ ∃ k, k < K ∧ leastX n mk K = mk k)
  | 0 => ⟨Int.le_refl _, fun k hk => absurd hk (by omega), .inl rfl⟩
  | K + 1 => by
    obtain ⟨h1, h2, h3⟩ := leastX_spec n mk K
    simp only [leastX]
    refine ⟨by omega, fun k hk => ?_, ?_⟩
    · by_cases e : k = K
      · subst e; omega
      · have := h2 k (by omega); omega
    · rcases Int.le_total (leastX n mk K) (mk K) with hle | hle
      · rw [Int.min_eq_left hle]
        rcases h3 with h3 | ⟨k, hk, e⟩
        · exact .inl h3
        · exact .inr ⟨k, by omega, e⟩
      · rw [Int.min_eq_right hle]
        exact .inr ⟨K, by omega, rfl⟩
/-- the mark so far, of the groups that were looked at -/
def MarkX (n : Int) (mk : Nat → Int) (names : List ByteArray) (left : Lit → Bool) (v : Int) : Prop :=
  v ≤ n ∧ (∀ k s, names[k]? = some s → left (keyL s) = false → v ≤ mk k) ∧ (v = n ∨ ∃ k s, names[k]? = some s ∧ left (keyL s) = false ∧ v = mk k)
theorem MarkX.end {n : Int} {mk : Nat → Int} {names : List ByteArray} {left : Lit → Bool} {v : Int} (h : MarkX n mk names left v) (hl : ∀ kl, left kl = false) : v = leastX n mk names.length := by
  obtain ⟨h1, h2, h3⟩ := h
  obtain ⟨g1, g2, g3⟩ := leastX_spec n mk names.length
  have a : v ≤ leastX n mk names.length := by
    rcases g3 with e | ⟨k, hk, e⟩
    · omega
    · have := h2 k _ (List.getElem?_eq_getElem hk) (hl _)
      omega
  have b : leastX n mk names.length ≤ v := by
    rcases h3 with e | ⟨k, s, hk, _, e⟩
    · omega
    · have := g2 k (List.getElem?_eq_some_iff.1 hk).1
      omega
  omega
def toX (seg n : Int) (mk : Nat → Int) (K : Nat) : Int := leastX n mk K - leastX n mk K % seg
def staysX (seg fl n : Int) (mk : Nat → Int) (K : Nat) : Bool := decide (K = 0) || decide (toX seg n mk K ≤ fl)
def goneX (seg fl n : Int) (mk : Nat → Int) (K : Nat) : Int := bif staysX seg fl n mk K then 0 else toX seg n mk K - fl
def floorX (seg fl n : Int) (mk : Nat → Int) (K : Nat) : Int := bif staysX seg fl n mk K then fl else toX seg n mk K
theorem toX_words {seg n : Int} {mk : Nat → Int} {K : Nat} (hs : 1 ≤ seg) (h0 : 0 ≤ leastX n mk K) : 0 ≤ leastX n mk K % seg ∧ leastX n mk K % seg ≤ leastX n mk K := by
  have h1 := Int.emod_nonneg (leastX n mk K) (show seg ≠ 0 by omega)
  have h3 := Int.emod_add_mul_ediv (leastX n mk K) seg
  have h4 := Int.ediv_nonneg h0 (show 0 ≤ seg by omega)
  have h5 := Int.mul_nonneg (show 0 ≤ seg by omega) h4
  omega

set_option maxRecDepth 100000 in
set_option maxHeartbeats 2000000 in
theorem release_any (i b : Nat) (a0 a1 a3 a4 vB a8 a9 : Value) (seg fl : Int) (n mb : Nat) (bs names : List ByteArray) (f : Nat → Nat) (ps : Nat → PG) (w : World) (T : Nat → Tag)
    (hB : Blk w T (.q i 0 0) b #[a0, a1, .int .i64 seg, a3, a4, .int .i64 fl, vB, .map (some mb), a8, a9] 105) (hS : Sub w T (.q i 1 0) vB (bs.map .string)) (hN : NM w T (.q i 2 0) mb names f) (hnd : names.Nodup)
    (hG : ∀ k, k < names.length → GM w T i k (f k) (ps k) ∧ setB (ps k).done = true ∧ 0 ≤ (ps k).start ∧ (ps k).start ≤ 400) (h0 : 0 ≤ fl) (hn : fl + bs.length = n) (h4 : n ≤ 400) (hseg : 1 ≤ seg) (hseg2 : seg ≤ 16) (_h6 : names.length ≤ 6) :
    Calls Tryz.prog 92 #[.pointer (some ⟨b, 0, none⟩)] w fun e w' => e = .returned (.int .i64 (goneX seg fl n (fun k => gapI (ps k).done (ps k).start) names.length)) ∧ ∃ T' vB', Step (fun t => t = .q i 0 0 ∨ t = .q i 1 0) w T w' T' ∧
      Blk w' T' (.q i 0 0) b #[a0, a1, .int .i64 seg, a3, a4, .int .i64 (floorX seg fl n (fun k => gapI (ps k).done (ps k).start) names.length), vB', .map (some mb), a8, a9] 105 ∧ Sub w' T' (.q i 1 0) vB' ((bs.drop (goneX seg fl n (fun k => gapI (ps k).done (ps k).start) names.length).toNat).map .string) := by
  obtain ⟨mk, hmkd⟩ : ∃ mk : Nat → Int, Hid (mk = fun k => gapI (ps k).done (ps k).start) := ⟨_, hide rfl⟩
  rw [← hmkd.out]
  have hmk0 : ∀ k, k < names.length → 0 ≤ mk k := fun k hk => by
    have h1 := hG k hk
    have := (gap_spec h1.2.1 (ps k).start).1
    rw [hmkd.out]
    show 0 ≤ gapI (ps k).done (ps k).start
    omega
  have lb := hB.lt
  have c7 := hB.cell (j := 7) rfl
  simp only [List.getElem_toArray, List.getElem_cons_succ, List.getElem_cons_zero] at c7
  have hml := hN.len
  by_cases hz : names.length = 0
  · have eN : Hid (goneX seg fl n mk names.length = 0) := hide (by simp [goneX, staysX, hz])
    have eF : floorX seg fl n mk names.length = fl := by simp [floorX, staysX, hz]
    rw [hz] at hml
    go_enter Tryz.func92, Tryz.ntmps92
    go_wp2
    go_ret
    exact ⟨by rw [eN.out]; rfl, T, vB, Step.refl _ _ _, by rw [eF]; exact hB, by rw [eN.out]; simpa using hS⟩
  have hlx : (bs.map Value.string).length = bs.length := by simp
  have hSk := hS
  obtain ⟨ao, cap, rfl, hcap, hrest⟩ := hS
  rw [hlx] at hB hcap
  have c5 := hB.cell (j := 5) rfl
  have c6 := hB.cell (j := 6) rfl
  simp only [List.getElem_toArray, List.getElem_cons_succ, List.getElem_cons_zero] at c5 c6
  have hend := qend_any b fl ao bs.length cap w lb c5 c6 h0 (by omega) (by omega)
  rw [hn] at hend
  go_enter Tryz.func92, Tryz.ntmps92
  go_wp2_with fail
  refine hend.mono ?_
  rintro e w1 ⟨rfl, hb1⟩
  have g1 := step_below (fun _ => False) T hb1
  have f1 : Step (fun t => t = .q i 0 0 ∨ t = .q i 1 0) w T w1 T := step_below _ T hb1
  replace hB := hB.step g1 (fun h => h)
  replace hSk := hSk.step g1 (fun h => h)
  replace hN := hN.step g1 (fun h => h)
  replace hG : ∀ k, k < names.length → GM w1 T i k (f k) (ps k) ∧ setB (ps k).done = true ∧ 0 ≤ (ps k).start ∧ (ps k).start ≤ 400 := fun k h => ⟨(hG k h).1.step g1 (fun _ _ h => h), (hG k h).2⟩
  clear lb c7 hml g1 hb1 c5 c6 hend hrest
  have lb := hB.lt
  have c7 := hB.cell (j := 7) rfl
  simp only [List.getElem_toArray, List.getElem_cons_succ, List.getElem_cons_zero] at c7
  have hNk := hN
  obtain ⟨hTm, nn, D, hown, hsz, hhas, hat⟩ := hN
  go_wp2_with (first
    | (at_range; refine wpList_range_own _ rfl _ 99 rfl 9 129 law9 Tryz.underlying99 _ mb nn _ rfl hown ?_; intro w3 hrg0 hg0 hs0)
    | go_in)
  go_frame
  generalize hrr : w1.heap.size = r at *
  have h3 : Step (fun _ => False) w1 T w3 (retag T r .free) := step_grown hg0 (fun k hk => by cases hk) (fun k hk => retag_other T r .free (by omega))
  go_loopw [3] (fun u3 wr => ∃ (left : Lit → Bool) (cnt : Nat) (T' : Nat → Tag) (v : Int), u3 = .int .i64 v ∧ 0 ≤ v ∧ wr.ranges Tryz.prog 9 ptrElem mb r nn D left cnt ∧ Step (fun _ => False) w1 T wr T' ∧ T' r = .free ∧ MarkX n mk names left v) (fun _ wr => wr.rangeLeft mb r)
  case atStart =>
    refine ⟨_, _, retag T r .free, n, rfl, by omega, hrg0, h3, retag_same _ _ _, Int.le_refl _, fun k s hk hl => ?_, .inl rfl⟩
    have hidx : (idx s names).isSome = true := by rw [idx_memB]; exact memB_iff.2 (List.mem_of_getElem? hk)
    rw [hhas, hidx] at hl
    cases hl
  case round =>
    obtain ⟨left, cnt, T', v, rfl, hv0, hrg, hs, hTr, hmk⟩ := hrel
    clear hrg0 hg0 hs0 h3
    go_wp2_with (first
      | (at_next; refine wpList_next_groups _ rfl _ rfl mb r nn _ _ _ names f hhas hat rfl hrg ?_ ?_)
      | go_in)
    · intro _ hl0
      have hle := hmk.1
      have hvl := hmk.end hl0
      have hw := toX_words (seg := seg) (n := n) (mk := mk) (K := names.length) hseg (by omega)
      rw [← hvl] at hw
      have eT : Hid (toX seg n mk names.length = v - v % seg) := hide (by unfold toX; rw [← hvl])
      clear hmk hvl
      obtain ⟨R, hR⟩ : ∃ R, v % seg = R := ⟨_, rfl⟩
      rw [hR] at hw
      replace eT : Hid (toX seg n mk names.length = v - R) := hide (by rw [eT.out, hR])
      obtain ⟨Fn, hFn⟩ : ∃ Fn : Nat, v - R = Fn := ⟨(v - R).toNat, by omega⟩
      rw [hFn] at eT
      have hBr := hB.step hs (fun h => h)
      have hSr := hSk.step hs (fun h => h)
      have lr := hBr.lt
      have c2 := hBr.cell (j := 2) rfl
      have c5 := hBr.cell (j := 5) rfl
      simp only [List.getElem_toArray, List.getElem_cons_succ, List.getElem_cons_zero] at c2 c5
      by_cases hle2 : (Fn : Int) ≤ fl
      · have eN : Hid (goneX seg fl n mk names.length = 0) := hide (by simp [goneX, staysX, eT.out, hle2])
        have eF : floorX seg fl n mk names.length = fl := by simp [floorX, staysX, eT.out, hle2]
        go_wp2
        go_ret
        exact ⟨by rw [eN.out]; rfl, T', .slice ao bs.length cap, f1.trans (hs.mono (fun _ h => h.elim)), by rw [eF]; exact hBr, by rw [eN.out]; simpa using hSr⟩
      · obtain ⟨Gn, hsub2⟩ : ∃ Gn : Nat, (Fn : Int) - fl = Gn := ⟨((Fn : Int) - fl).toNat, by omega⟩
        have eN : Hid (goneX seg fl n mk names.length = Gn) := hide (by simp [goneX, staysX, hz, eT.out, hle2]; omega)
        have eF : Hid (floorX seg fl n mk names.length = Fn) := hide (by simp [floorX, staysX, hz, eT.out, hle2])
        have hF4 : Fn ≤ 400 := by omega
        have hG4 : Gn ≤ 400 := by omega
        have hG0 : 0 < Gn := by omega
        have hGK : Gn ≤ bs.length := by omega
        have hK4 : bs.length ≤ 400 := by omega
        have hSk2 := hSr
        obtain ⟨ao2, cap2, e2, hcap2, hrest⟩ := hSr
        rw [hlx] at e2
        cases e2
        rcases hrest with hz2 | ⟨gb, off, cur, rfl, hTg, hgb, hcs, hxs⟩
        · omega
        have hSk3 := hSk2
        have hcut := hSk3.cut (n := Gn) hG0 (by rw [hlx]; exact hGK) (List.replicate Gn (.string ⟨#[]⟩)) (by simp)
        rw [hlx] at hcut
        have hcl : ∀ ty, (Builtin.clear_ #[54] ty #[.slice (some ⟨gb, off, none⟩) Gn cap]).run Tryz.prog wr = .ok (.tuple #[]) (wr.setCells gb off (List.replicate Gn (.string ⟨#[]⟩))) := fun ty =>
          Lib.run_clear_slice wr 54 9 ty (.string ⟨#[]⟩) Tryz.underlying54 zeroS rfl rfl gb off Gn cap hG0 (fun j hj => by
            have hlt : off + j < cur.size := by omega
            simp [World.cell?, hgb, hlt]) (fun j hj => by simp [World.frozen?, hgb])
        have c6 := hBr.cell (j := 6) rfl
        simp only [List.getElem_toArray, List.getElem_cons_succ, List.getElem_cons_zero] at c6
        go_upto_region 13 with (fail)
        obtain ⟨hS5, hs5⟩ := hcut
        clear hcl c6 c5 c2 lr hSk2 hSk3 hSk
        generalize wr.setCells gb off (List.replicate Gn (.string ⟨#[]⟩)) = w5 at *
        have hB5 := hBr.step hs5 (by simp)
        have l5 := hB5.lt
        have d5 := hB5.cell (j := 5) rfl
        have d6 := hB5.cell (j := 6) rfl
        have z5 := hB5.frozen 5
        have z6 := hB5.frozen 6
        simp only [List.getElem_toArray, List.getElem_cons_succ, List.getElem_cons_zero] at d5 d6
        have hdrop : (bs.map Value.string).drop Gn = (bs.drop Gn).map Value.string := by rw [← List.map_drop]
        rw [hdrop] at hS5
        have hfin : ∀ vB', Sub w5 T' (.q i 1 0) vB' ((bs.drop Gn).map Value.string) → ∃ T'' vB'', Step (fun t => t = .q i 0 0 ∨ t = .q i 1 0) w T ((w5.setCell ⟨b, 6, none⟩ vB').setCell ⟨b, 5, none⟩ (.int .i64 Fn)) T'' ∧
            Blk ((w5.setCell ⟨b, 6, none⟩ vB').setCell ⟨b, 5, none⟩ (.int .i64 Fn)) T'' (.q i 0 0) b #[a0, a1, .int .i64 seg, a3, a4, .int .i64 (floorX seg fl n mk names.length), vB'', .map (some mb), a8, a9] 105 ∧ Sub ((w5.setCell ⟨b, 6, none⟩ vB').setCell ⟨b, 5, none⟩ (.int .i64 Fn)) T'' (.q i 1 0) vB'' ((bs.drop (goneX seg fl n mk names.length).toNat).map .string) := by
          intro vB' hSv
          have s6 : Step (fun t => t = .q i 0 0) w5 T' ((w5.setCell ⟨b, 6, none⟩ vB').setCell ⟨b, 5, none⟩ (.int .i64 Fn)) T' := (step_setCell w5 T' b 6 _ (S := fun t => t = .q i 0 0) hB5.1).trans (step_setCell _ T' b 5 _ (S := fun t => t = .q i 0 0) hB5.1)
          have s56 : Step (fun t => t = .q i 0 0 ∨ t = .q i 1 0) wr T' ((w5.setCell ⟨b, 6, none⟩ vB').setCell ⟨b, 5, none⟩ (.int .i64 Fn)) T' := (hs5.mono (fun _ h => .inr h)).trans (s6.mono (fun _ h => .inl h))
          refine ⟨T', vB', f1.trans ((hs.mono (fun _ h => h.elim)).trans s56), ?_, ?_⟩
          · rw [eF.out]
            simpa using (hB5.set 6 vB').set 5 (.int .i64 Fn)
          · rw [eN.out]
            exact hSv.step s6 (by simp)
        by_cases hcg : cap = Gn
        · have hfin2 := hfin _ hS5
          simp only [hcg, if_true] at hfin2
          subst hcg
          simp only [show bs.length - cap = 0 by omega, Nat.sub_self] at hfin2
          replace hfin2 := hide hfin2
          go_wp2
          go_ret
          obtain ⟨T'', vB'', y1, y2, y3⟩ := hfin2.out
          exact ⟨by rw [eN.out]; rfl, T'', y1, vB'', y2, by simpa using y3⟩
        · have hfin2 := hfin _ hS5
          simp only [hcg, if_false] at hfin2
          replace hfin2 := hide hfin2
          go_wp2
          go_ret
          obtain ⟨T'', vB'', y1, y2, y3⟩ := hfin2.out
          exact ⟨by rw [eN.out]; rfl, T'', y1, vB'', y2, by simpa using y3⟩
    · intro x j w4 cnt4 hj hlx4 hrg4 hlt hg4 hs4 hen
      have g4 : Step (fun t => t = .free) wr T' w4 T' := step_grown hg4 (fun k hk => by cases hk; exact hTr) (fun _ _ => rfl)
      have hjl := idx_lt hj.out
      have hjs := idx_some hj.out
      have hGj0 := hG j hjl
      have hGj := (hGj0.1.step hs (fun _ _ h => h)).step g4 (by simp)
      have hs14 : Step (fun _ => False) w1 T w4 T' := hs.grownNew (by omega) hg4
      have hmj := hmk0 j hjl
      have hgm : Hid (gapI (ps j).done (ps j).start = mk j) := hide (by rw [hmkd.out])
      have hmm := (hmk.1)
      go_wp2_with fail
      refine (mark_any i j (f j) (ps j) w4 T' hGj hGj0.2.1 hGj0.2.2.1 hGj0.2.2.2).mono ?_
      rintro e w5 ⟨rfl, hb5⟩
      rw [hgm.out]
      have hrg5 := ranges_step hrg4 (step_below (fun _ => False) T' hb5) (fun h => h) (fun h => h)
      have hs15 := hs14.trans (step_below (fun _ => False) T' hb5)
      have hmk2 : MarkX n mk names (fun z => left z && !z.sameKey (keyL x)) (min v (mk j)) := by
        obtain ⟨m1, m2, m3⟩ := hmk
        refine ⟨by omega, fun k s hk hl => ?_, ?_⟩
        · by_cases hgx : s = x
          · subst hgx
            have e := (List.getElem?_inj (List.getElem?_eq_some_iff.1 hk).1 hnd).1 (hk.trans hjs.symm)
            subst e
            omega
          · simp only [same_str hgx, Bool.not_false, Bool.and_true] at hl
            have := m2 k s hk hl
            omega
        · rcases Int.le_total v (mk j) with hle | hle
          · rw [Int.min_eq_left hle]
            rcases m3 with e | ⟨k, s, hk, hl, e⟩
            · exact .inl e
            · exact .inr ⟨k, s, hk, by simp [hl], e⟩
          · rw [Int.min_eq_right hle]
            exact .inr ⟨j, x, hjs, by simp [same_str_self], rfl⟩
      have hgo : ∀ u : Int, u = min v (mk j) → ∃ (left : Lit → Bool) (cnt : Nat) (T' : Nat → Tag) (v : Int), Value.int .i64 u = .int .i64 v ∧ 0 ≤ v ∧ w5.ranges Tryz.prog 9 ptrElem mb r nn D left cnt ∧ Step (fun _ => False) w1 T w5 T' ∧ T' r = .free ∧ MarkX n mk names left v :=
        fun u hu => ⟨_, cnt4, T', min v (mk j), by rw [hu], by omega, hrg5, hs15, hTr, hmk2⟩
      have hgo2 := hide hgo
      generalize mk j = mg at *
      clear hmk hgm hmk2 hgo
      go_wp2
      all_goals
        exact ⟨hgo2.out _ (by omega), by rw [hrg5.left_eq, hrg.left_eq]; exact hlt⟩

end Go.Proofs.YtockkceclkcgbaaGreatDoor

/- The contract of the program's Retain, over the document's queue that it tells. -/
namespace Go.Proofs.YtockkceclkcgbaaGreatDoor
open Go.RowKit Go.Maps
variable {vL vS : Value} {lg : Bs}

theorem least_same {m : MQ} {mk : Nat → Int} (h : ∀ k g, m.groups[k]? = some g → mk k = (markOf g : Nat)) : ∀ K, K ≤ m.groups.length → leastX m.bodies.length mk K = (leastTo m K : Nat)
  | 0, _ => rfl
  | K + 1, hK => by
    obtain ⟨g, hg⟩ : ∃ g, m.groups[K]? = some g := ⟨_, List.getElem?_eq_getElem (by omega)⟩
    simp only [leastX, leastTo, hg, least_same h K (by omega), h K g hg]
    omega
theorem retain_same {m : MQ} {mk : Nat → Int} (h : ∀ k g, m.groups[k]? = some g → mk k = (markOf g : Nat)) (hs : 1 ≤ m.c.s) : toX m.c.s m.bodies.length mk m.groups.length = retainTo m ∧ staysX m.c.s m.floor m.bodies.length mk m.groups.length = retainB m := by
  obtain ⟨Fn, e1, e2, _⟩ := retain_words m (leastTo m m.groups.length) rfl hs
  have hl := least_same h m.groups.length (Nat.le_refl _)
  have ht : toX m.c.s m.bodies.length mk m.groups.length = retainTo m := by
    unfold toX
    rw [hl, e1]
    exact e2
  exact ⟨ht, by unfold staysX retainB; rw [ht]⟩

attribute [local go_sem] over_cell

set_option maxRecDepth 100000 in
set_option maxHeartbeats 1000000 in
theorem xretain_any (i b : Nat) (m : MQ) (w : World) (T : Nat → Tag) {ls : Nat} (hx : XM w T i b m vL (.int .u32 ls) lg) (hok : m.Ok) (hls : ls < 4294967296) (hll : lg.length ≤ 1000000000000) :
    Calls Tryz.prog 60 #[.pointer (some ⟨b, 0, none⟩)] w fun e w' => e = .returned (.int .i64 (retainN m)) ∧ ∃ T' vL', Step (XT i) w T w' T' ∧
      XM w' T' i b (retainM m) vL' (.int .u32 (logS (decide (0 < retainN m)) ls 102 [])) (logL (decide (0 < retainN m)) lg ls 102 []) := by
  have hsm := hx.small
  have hfl := hok.fl
  have hseg := good_seg hok.good
  have hnl : m.names.length = m.groups.length := by simp [MQ.names]
  obtain ⟨vB, mb, f, ps, hB, hS, hN, hG, hL⟩ := hx.mem
  have hgrp : ∀ k, k < m.names.length → ∃ g, m.groups[k]? = some g := fun k hk => ⟨_, List.getElem?_eq_getElem (by omega)⟩
  have hmk : ∀ k g, m.groups[k]? = some g → gapI (ps k).done (ps k).start = (markOf g : Nat) := fun k g hg => by
    have hr := (hG k g hg).2
    have hst := hok.start g (List.mem_of_getElem? hg)
    rw [hr.start]
    obtain ⟨a, ha⟩ : ∃ a : Nat, g.start = a := ⟨g.start.toNat, by omega⟩
    rw [ha, gap_mark hr.set hr.done, markOf, ha]
    rfl
  have hr := release_any i b _ _ _ _ vB _ _ m.c.s m.floor m.bodies.length mb (m.bodies.drop m.floor.toNat) m.names f ps w T hB hS hN hx.nodup (fun k hk => by
    obtain ⟨g, hg⟩ := hgrp k hk
    have hr := (hG k g hg).2
    have hst := hok.start g (List.mem_of_getElem? hg)
    exact ⟨(hG k g hg).1, hr.set, by rw [hr.start]; omega, by rw [hr.start]; omega⟩) hfl.1 (by simp; omega) hsm hseg.1 hseg.2 (by have := hx.few; omega)
  have hto := retain_same (m := m) (mk := fun k => gapI (ps k).done (ps k).start) hmk hseg.1
  have hgo : goneX m.c.s m.floor m.bodies.length (fun k => gapI (ps k).done (ps k).start) m.names.length = retainN m := by
    unfold goneX retainN
    rw [hnl, hto.1, hto.2]
  have hfo : floorX m.c.s m.floor m.bodies.length (fun k => gapI (ps k).done (ps k).start) m.names.length = (retainM m).floor := by
    unfold floorX retainM
    rw [hnl, hto.1, hto.2]
    cases retainB m <;> rfl
  rw [hgo, hfo] at hr
  have hpos : 0 ≤ retainN m := by
    unfold retainN
    cases hb : retainB m
    · unfold retainB at hb
      simp at hb
      simp only [cond_false]
      omega
    · simp
  have hdrop : (m.bodies.drop m.floor.toNat).drop (retainN m).toNat = m.bodies.drop (retainM m).floor.toNat := by
    rw [List.drop_drop]
    congr 1
    unfold retainN retainM
    cases hb : retainB m
    · unfold retainB at hb
      simp at hb
      simp only [cond_false]
      omega
    · simp
  rw [hdrop] at hr
  have hm' : (retainM m).c = m.c ∧ (retainM m).time = m.time ∧ (retainM m).bodies = m.bodies ∧ (retainM m).groups = m.groups := by
    unfold retainM
    cases retainB m <;> exact ⟨rfl, rfl, rfl, rfl⟩
  obtain ⟨k1, k2, k3, k4⟩ := hm'
  have knames : (retainM m).names = m.names := by unfold MQ.names; rw [k4]
  go_enter Tryz.func60, Tryz.ntmps60
  go_wp2_with fail
  refine hr.mono ?_
  rintro e w1 ⟨rfl, T1, vB1, s1, hB1, hS1⟩
  have f1 : Step (XT i) w T w1 T1 := s1.mono (fun t ht => by rcases ht with rfl | rfl <;> exact ⟨rfl, rfl⟩)
  have lb1 := hB1.lt
  have hx1 : XM w1 T1 i b (retainM m) vL (.int .u32 ls) lg := by
    refine ⟨by rw [k3]; exact hsm, by rw [k4]; exact hx.few, by rw [knames]; exact hx.nodup, by rw [knames]; exact hx.short, fun g hg => ?_, vB1, mb, f, ps, by rw [k1, k2]; exact hB1, by rw [k3]; exact hS1, by rw [knames]; exact hN.step s1 (by simp), fun k g hg => ?_, hL.step s1 (by simp)⟩
    · rw [k4] at hg
      exact (hx.inv g hg).same k2 k1
    · rw [k4] at hg
      exact ⟨(hG k g hg).1.step s1 (by intro r hr; simp; omega), (hG k g hg).2.same k2 k3⟩
  have hadd := hx1.addText hls hll 102 ⟨#[]⟩ (by decide)
  obtain ⟨N, hNN⟩ : ∃ N, Hid (retainN m = N) := ⟨_, hide rfl⟩
  rw [hNN.out] at hpos ⊢
  clear hx hB hS hN hG hL hr hmk hgrp hto hgo hfo hB1 hS1 hdrop
  by_cases h0 : 0 < N
  · go_wp2_with fail
    refine hadd.mono ?_
    rintro e w2 ⟨rfl, T2, vL2, s2, hx2⟩
    go_wp2
    go_ret
    exact ⟨by rw [hNN.out]; rfl, T2, vL2, f1.trans s2, by rw [hNN.out, decide_eq_true h0]; exact hx2⟩
  · clear hadd
    go_wp2
    go_ret
    exact ⟨by rw [hNN.out]; rfl, T1, vL, f1, by rw [hNN.out, decide_eq_false (by omega)]; exact hx1⟩

end Go.Proofs.YtockkceclkcgbaaGreatDoor

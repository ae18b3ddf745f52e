/- Replay of a record with a group's name. -/
import Derived.Test.YtockkceclkcgbaaGreatDoorB37
import Derived.Test.YtockkceclkcgbaaGreatDoorB21
import Derived.Test.YtockkceclkcgbaaGreatDoorB22
namespace Go.Proofs.YtockkceclkcgbaaGreatDoor
open Go.RowKit Go.Maps

theorem byte_is (k : UInt8) (n : Nat) (hn : n < 256) : k = UInt8.ofNat n ↔ (k.toNat : Int) = n := by
  rw [← UInt8.toNat_inj, UInt8.toNat_ofNat_of_lt' (by simpa using hn)]
  omega
theorem replayN_no {c : Conf} {co : Core} {k : UInt8} {s : ByteArray} {offs : List Int} (hk : k ≠ 114) (hl : offs.length ≠ 1) : replayN c co k s offs = none := by
  unfold replayN
  rw [if_neg hk]
  match offs, hl with
  | [], _ => rfl
  | _ :: _ :: _, _ => rfl

theorem CM.floorCell {w : World} {T : Nat → Tag} {i b : Nat} {c : Conf} {co : Core} {vL : Value} {ls : Nat} {lg : Bs} (h : CM w T i b c co vL ls lg) : w.cell? ⟨b, 5, none⟩ = some (.int .i64 co.floor) := by
  obtain ⟨_, _, _, _, _, _, hB, _⟩ := h
  exact hB.cell (j := 5) rfl
theorem joined_floor (x : Bool) (co : Core) (s : ByteArray) (o : Int) : (bif x then co.join s o else co).floor = co.floor := by cases x <;> rfl

set_option maxRecDepth 100000 in
set_option maxHeartbeats 2000000 in
theorem replayNamed_any (i b : Nat) (c : Conf) (co : Core) (vL vO : Value) (ls : Nat) (lg : Bs) (k : UInt8) (s : ByteArray) (offs : List Int) (w : World) (T : Nat → Tag) (h : CM w T i b c co vL ls lg) (hO : Row w T (.q i 0 6) 3 1 vO offs.length (offs.map intV)) (hoff : ∀ o ∈ offs, 0 ≤ o ∧ o < 65536) (hol : offs.length ≤ 100000000000) :
    Calls Tryz.prog 132 #[.pointer (some ⟨b, 0, none⟩), .int .u8 k.toNat, .string s, vO] w fun e w' => ∃ T', Step (XT i) w T w' T' ∧ repA (fun co' => CM w' T' i b c co' vL ls lg) e (replayN c co k s offs) := by
  obtain ⟨oo, oc, rfl⟩ := row_form hO
  have b114 := byte_is k 114 (by omega)
  have b103 := byte_is k 103 (by omega)
  have b97 := byte_is k 97 (by omega)
  by_cases h114 : k = 114
  · subst h114
    have hsv := serveAgain_any i b c co vL _ ls lg s offs w T h hO hoff hol
    clear b114 b103 b97
    rw [show ((114 : UInt8).toNat : Int) = 114 from rfl]
    go_enter Tryz.func132, Tryz.ntmps132
    go_wp2_with fail
    refine hsv.mono ?_
    rintro e w1 ⟨T1, s1, hr⟩
    cases hrep : replayN c co 114 s offs with
    | none =>
      rw [hrep] at hr
      obtain rfl := hr
      go_wp2
      go_ret
      exact ⟨T1, s1, by rw [hrep]; rfl⟩
    | some co' =>
      rw [hrep] at hr
      obtain ⟨rfl, hr⟩ := hr
      go_wp2
      go_ret
      exact ⟨T1, s1, by rw [hrep]; exact ⟨rfl, hr⟩⟩
  have z1 : ¬ (k.toNat : Int) = 114 := fun e => h114 (b114.2 e)
  by_cases hl : offs.length = 1
  · obtain ⟨o, rfl⟩ : ∃ o, offs = [o] := List.length_eq_one_iff.1 hl
    obtain ⟨o0, o1⟩ := hoff o (by simp)
    obtain ⟨og, oc2, e⟩ := row_some hO (by simp)
    cases e
    have co0 := hO.cell (j := 0) (u := .int .i64 o) rfl
    have lo := hO.lt
    by_cases h103 : k = 103
    · have z2 : (k.toNat : Int) = 103 := b103.1 h103
      have erep : Hid (replayN c co k s [o] = bif decide (co.joinE s o co.floor = 0) then some (co.join s o) else none) := hide (by unfold replayN; rw [if_neg h114]; simp only []; rw [if_pos h103])
      have h' := h
      obtain ⟨h1, h2, vB, mb, f, ps, hB, hS, hN, hG, hL⟩ := h'
      have lb := hB.lt
      have c5 := hB.cell (j := 5) rfl
      simp only [List.getElem_toArray, List.getElem_cons_succ, List.getElem_cons_zero] at c5
      have hdr := step_below (fun _ => False) T (Below.refl w.heap.size w).drew
      clear hB hS hN hG hL b114 b103 b97 hoff h114 h103
      generalize (k.toNat : Int) = z at *
      subst z2
      go_enter Tryz.func132, Tryz.ntmps132
      go_wp2_with fail
      go_region_held3 (fun w' => w'.cell? ⟨og, 0, none⟩ = some (.int .i64 o) ∧ w'.cell? ⟨b, 5, none⟩ = some (.int .i64 co.floor)) (go_keep) (first | (go_at_call 107; refine (cjoin_any i b c co vL ls lg s o _ T (h.step hdr (fun _ _ _ h => h))).mono ?_; rintro e w3 ⟨T3, rfl, s3, hC3⟩; have k0 := ((hO.step hdr (fun h => h)).step s3 (by simp)).cell (j := 0) (u := .int .i64 o) rfl; have k5 := hC3.floorCell; rw [joined_floor] at k5))
      have s4 : Step (XT i) w T w3 T3 := (hdr.mono (fun _ h => h.elim)).trans (s3.mono (fun t h => by subst h; exact ⟨rfl, rfl⟩))
      cases hj : decide (co.joinE s o co.floor = 0)
      · rw [hj] at erep
        have hj2 : ¬ co.joinE s o co.floor = 0 := by simpa using hj
        go_wp2
        go_ret
        exact ⟨T3, s4, by rw [erep.out]; show Ending.returned (Value.bool (co.joinE s o co.floor == 0)) = _; simp [hj2]⟩
      · rw [hj] at erep hC3
        have hj2 : co.joinE s o co.floor = 0 := by simpa using hj
        go_wp2
        go_ret
        exact ⟨T3, s4, by rw [erep.out]; exact ⟨by show Ending.returned (Value.bool (co.joinE s o co.floor == 0)) = _; simp [hj2], hC3⟩⟩
    have z2 : ¬ (k.toNat : Int) = 103 := fun e => h103 (b103.2 e)
    by_cases h97 : k = 97
    · subst h97
      have hak := ackAgain_any i b c co vL ls lg s o w T h ⟨by omega, by omega⟩
      clear b114 b103 b97 hO hoff h114 h103 z1 z2
      rw [show ((97 : UInt8).toNat : Int) = 97 from rfl]
      go_enter Tryz.func132, Tryz.ntmps132
      go_wp2_with fail
      refine hak.mono ?_
      rintro e w1 ⟨T1, s1, hr⟩
      cases hrep : replayN c co 97 s [o] with
      | none =>
        rw [hrep] at hr
        obtain rfl := hr
        go_wp2
        go_ret
        exact ⟨T1, s1, by rw [hrep]; rfl⟩
      | some co' =>
        rw [hrep] at hr
        obtain ⟨rfl, hr⟩ := hr
        go_wp2
        go_ret
        exact ⟨T1, s1, by rw [hrep]; exact ⟨rfl, hr⟩⟩
    · have z3 : ¬ (k.toNat : Int) = 97 := fun e => h97 (b97.2 e)
      have er : Hid (replayN c co k s [o] = none) := hide (by unfold replayN; rw [if_neg h114]; simp only []; rw [if_neg h103, if_neg h97])
      clear hO hoff b114 b103 b97 h114 h103 h97
      generalize (k.toNat : Int) = z at *
      go_enter Tryz.func132, Tryz.ntmps132
      go_wp2
      go_ret
      exact ⟨T, Step.refl _ _ _, by rw [er.out]; rfl⟩
  · have er := replayN_no (c := c) (co := co) (s := s) h114 hl
    generalize (k.toNat : Int) = z at *
    clear hO hoff b114 b103 b97
    generalize offs.length = ol at *
    go_enter Tryz.func132, Tryz.ntmps132
    go_wp2
    go_ret
    exact ⟨T, Step.refl _ _ _, by rw [er]; rfl⟩

end Go.Proofs.YtockkceclkcgbaaGreatDoor

/- Replay of a record, over what load makes of a snapshot. -/
namespace Go.Proofs.YtockkceclkcgbaaGreatDoor
open Go.RowKit Go.Maps

theorem replayC_e {c : Conf} {q : Core} {x : Bool} {d : Bs} : replayC c q x 101 d = bif decide (q.keepE c (mkB d) = 0) then some (q.keep (mkB d)) else none := rfl
theorem replayC_f {c : Conf} {q : Core} {x : Bool} {d : Bs} : replayC c q x 102 d = bif decide (d = []) && decide (0 < q.gone c) then some (q.release c) else none := rfl
theorem replayC_c {c : Conf} {q : Core} {x : Bool} {d : Bs} : replayC c q x 99 d = bif x then loadC c d else none := rfl
theorem replayC_o {c : Conf} {q : Core} {x : Bool} {k : UInt8} {d : Bs} (h1 : k ≠ 101) (h2 : k ≠ 102) (h3 : k ≠ 99) : replayC c q x k d = bif (Rd.mk d false).text.2.nums.2.ended then replayN c q k (mkB (Rd.mk d false).text.1) (Rd.mk d false).text.2.nums.1 else none := by
  unfold replayC
  rw [if_neg h1, if_neg h2, if_neg h3]
theorem pairs_small : ∀ l : Bs, ∀ o ∈ (pairsOf l).1, 0 ≤ o ∧ o < 65536 := fun l => by
  induction l using pairsOf.induct with
  | case1 => simp [pairsOf]
  | case2 => simp [pairsOf]
  | case3 a b r ih =>
    intro o ho
    simp [pairsOf] at ho
    rcases ho with rfl | ho
    · have := decN_lt [a, b]
      simp at this
      omega
    · exact ih o ho
theorem nums_small (r : Rd) : ∀ o ∈ r.nums.1, 0 ≤ o ∧ o < 65536 := by
  unfold Rd.nums
  split
  · simp
  · exact pairs_small r.rest
theorem take_rest (r : Rd) (n : Nat) : (r.take n).2.rest.length ≤ r.rest.length := by
  unfold Rd.take
  split
  · exact Nat.le_refl _
  · simp
theorem text_rest (d : Bs) : (Rd.mk d false).text.2.rest.length ≤ d.length :=
  Nat.le_trans (take_rest _ _) (take_rest ⟨d, false⟩ 1)
theorem nums_len (r : Rd) : r.nums.1.length ≤ r.rest.length := by
  cases h : r.short
  · exact nums_bound r h
  · rw [nums_short r h]; simp

set_option maxRecDepth 100000 in
set_option maxHeartbeats 2000000 in
theorem replay_any (i b : Nat) (c : Conf) (co : Core) (vL : Value) (ls : Nat) (lg : Bs) (k : UInt8) (d : Bs) (w : World) (T : Nat → Tag) (h : CM w T i b c co vL ls lg) (hd : d.length ≤ 100000000)
    (hload : lg = [] → k = 99 → Calls Tryz.prog 128 #[.pointer (some ⟨b, 0, none⟩), .string (mkB d)] w fun e w' => ∃ T', Step (XT i) w T w' T' ∧ repA (fun co' => CM w' T' i b c co' vL ls lg) e (loadC c d)) :
    Calls Tryz.prog 98 #[.pointer (some ⟨b, 0, none⟩), .int .u8 k.toNat, .string (mkB d)] w fun e w' => ∃ T', Step (XT i) w T w' T' ∧ repA (fun co' => CM w' T' i b c co' vL ls lg) e (replayC c co (decide (lg = [])) k d) := by
  obtain ⟨R, hR⟩ : ∃ R, Hid (replayC c co (decide (lg = [])) k d = R) := ⟨_, hide rfl⟩
  rw [hR.out]
  have b101 := byte_is k 101 (by omega)
  have b102 := byte_is k 102 (by omega)
  have b99 := byte_is k 99 (by omega)
  by_cases h101 : k = 101
  · subst h101
    clear b101 b102 b99 hload
    rw [show ((101 : UInt8).toNat : Int) = 101 from rfl]
    replace hR : Hid (R = _) := hide (hR.out.symm.trans replayC_e)
    go_enter Tryz.func98, Tryz.ntmps98
    go_wp2_with fail
    refine (clone_any _ w (by rw [mkB_size]; omega)).mono ?_
    rintro e1 w1 ⟨rfl, hb1⟩
    have g1 := step_below (fun _ => False) T hb1
    go_wp2_with fail
    refine (ckeep_any i b c co vL ls lg (mkB d) w1 T (h.step g1 (fun _ _ _ h => h))).mono ?_
    rintro e2 w2 ⟨v, T2, rfl, s2, hC⟩
    have s3 : Step (XT i) w T w2 T2 := (g1.mono (fun _ h => h.elim)).trans s2
    cases hj : decide (co.keepE c (mkB d) = 0)
    · have hj2 : ¬ co.keepE c (mkB d) = 0 := by simpa using hj
      have er : Hid (R = none) := hide (by rw [hR.out, hj]; rfl)
      clear hC hj
      go_wp2
      go_ret
      exact ⟨T2, s3, by rw [er.out]; simp [repA, hj2]⟩
    · rw [hj] at hC
      have hj2 : co.keepE c (mkB d) = 0 := by simpa using hj
      have er : Hid (R = some (co.keep (mkB d))) := hide (by rw [hR.out, hj]; rfl)
      clear hj
      go_wp2
      go_ret
      exact ⟨T2, s3, by rw [er.out]; exact ⟨by simp, hC⟩⟩
  have z1 : ¬ (k.toNat : Int) = 101 := fun e => h101 (b101.2 e)
  by_cases h102 : k = 102
  · subst h102
    clear b101 b102 b99 hload h101 z1
    rw [show ((102 : UInt8).toNat : Int) = 102 from rfl]
    replace hR : Hid (R = _) := hide (hR.out.symm.trans replayC_f)
    have hem := mkB_empty d
    cases hde : decide (d = [])
    · have hem3 : (mkB d).toList.isEmpty = false := by rw [hem, hde]
      have er : Hid (R = none) := hide (by rw [hR.out, hde]; rfl)
      clear hem hde
      go_enter Tryz.func98, Tryz.ntmps98
      go_wp2
      go_ret
      exact ⟨T, Step.refl _ _ _, by rw [er.out]; rfl⟩
    · have hem3 : (mkB d).toList.isEmpty = true := by rw [hem, hde]
      clear hem
      go_enter Tryz.func98, Tryz.ntmps98
      go_wp2_with fail
      refine (crelease_any i b c co vL ls lg w T h).mono ?_
      rintro e2 w2 ⟨T2, rfl, s2, hC⟩
      cases hj : decide (0 < co.gone c)
      · have hj2 : ¬ 0 < co.gone c := by simpa using hj
        have er : Hid (R = none) := hide (by rw [hR.out, hde, hj]; rfl)
        clear hC hde
        go_wp2
        go_ret
        exact ⟨T2, s2, by rw [er.out]; simp [repA]⟩
      · have hj2 : 0 < co.gone c := by simpa using hj
        have er : Hid (R = some (co.release c)) := hide (by rw [hR.out, hde, hj]; rfl)
        clear hde
        go_wp2
        go_ret
        exact ⟨T2, s2, by rw [er.out]; exact ⟨by simp, hC⟩⟩
  have z2 : ¬ (k.toNat : Int) = 102 := fun e => h102 (b102.2 e)
  by_cases h99 : k = 99
  · subst h99
    clear b101 b102 b99 h101 z1 h102 z2
    rw [show ((99 : UInt8).toNat : Int) = 99 from rfl]
    replace hR : Hid (R = _) := hide (hR.out.symm.trans replayC_c)
    have h' := h
    obtain ⟨h1, h2, vB, mb, f, ps, hB, hS, hN, hG, hL⟩ := h'
    obtain ⟨lo, lc, rfl⟩ := row_form hL
    have lb := hB.lt
    have c8 := hB.cell (j := 8) rfl
    simp only [List.getElem_toArray, List.getElem_cons_succ, List.getElem_cons_zero] at c8
    clear hB hS hN hG hL
    by_cases hl : lg = []
    · have hld := hload hl rfl
      have hl0 : lg.length = 0 := by rw [hl]; rfl
      replace hR : Hid (R = loadC c d) := hide (by rw [hR.out, show decide (lg = []) = true from decide_eq_true hl]; rfl)
      clear hload hl
      go_enter Tryz.func98, Tryz.ntmps98
      go_wp2_with fail
      refine hld.mono ?_
      rintro e1 w1 ⟨T1, s1, hr⟩
      rw [← hR.out] at hr
      cases R with
      | none =>
        obtain rfl := hr
        go_wp2
        go_ret
        exact ⟨T1, s1, rfl⟩
      | some co' =>
        obtain ⟨rfl, hr⟩ := hr
        go_wp2
        go_ret
        exact ⟨T1, s1, rfl, hr⟩
    · have er : Hid (R = none) := hide (by rw [hR.out, show decide (lg = []) = false from decide_eq_false hl]; rfl)
      have hl0 : 0 < lg.length := List.length_pos_iff.2 hl
      have hl1 : ¬ (lg.length : Int) = 0 := by omega
      have hl2 : ((lg.length : Int) == 0) = false := by simp; omega
      clear hload hl h
      go_enter Tryz.func98, Tryz.ntmps98
      go_wp2
      go_ret
      exact ⟨T, Step.refl _ _ _, by rw [er.out]; rfl⟩
  have z3 : ¬ (k.toNat : Int) = 99 := fun e => h99 (b99.2 e)
  replace hR : Hid (R = _) := hide (hR.out.symm.trans (replayC_o h101 h102 h99))
  clear b101 b102 b99 h101 h102 h99 hload
  have s1 := step_new w T (.cells #[.string (mkB d), .bool false] 161) (.q i 0 5) (fun _ => False)
  have hO := blk_new w T #[.string (mkB d), .bool false] 161 (.q i 0 5)
  have hRd : RdB (w.alloc (.cells #[.string (mkB d), .bool false] 161)) (retag T w.heap.size (.q i 0 5)) (.q i 0 5) w.heap.size 161 #[.bool false, .bool false] ⟨d, false⟩ := ⟨hO, (by decide : 2 ≤ 2), by show d.length ≤ _; omega⟩
  have hC1 := h.step s1 (fun _ _ _ h => h)
  clear h
  go_enter Tryz.func98, Tryz.ntmps98
  go_wp2_with fail
  refine (text_any _ _ _ _ _ _ _ hRd).mono ?_
  rintro e2 w2 ⟨rfl, s2, hR2⟩
  have s12 : Step (fun s => s = .q i 0 5) w T w2 (retag T w.heap.size (.q i 0 5)) := (s1.mono (fun _ h => h.elim)).trans s2
  have hC2 := hC1.step s2 (fun r k h => by simp; omega)
  clear hC1 s1 s2 hO hRd
  generalize retag T w.heap.size (.q i 0 5) = T1 at *
  generalize w.heap.size = rb at *
  have hrl := text_rest d
  generalize (Rd.mk d false).text = tx at *
  have hnl := nums_len tx.2
  go_wp2_with fail
  refine (numbers_any (.q i 0 5) (.q i 0 6) rb _ _ tx.2 w2 T1 hR2 (by simp) (by omega)).mono ?_
  rintro e3 w3 ⟨vO, T3, rfl, s3, hR3, hO3⟩
  have hC3 := hC2.step s3 (fun r k h => by simp; omega)
  have hsm := nums_small tx.2
  generalize tx.2.nums = nm at *
  go_wp2_with fail
  refine (ended_any _ _ _ _ nm.2 w3 T3 hR3).mono ?_
  rintro e4 w4 ⟨rfl, rfl⟩
  have s14 : Step (XT i) w T w4 T3 := (s12.mono (fun t h => by subst h; exact ⟨rfl, rfl⟩)).trans (s3.mono (fun t h => by rcases h with rfl | rfl <;> exact ⟨rfl, rfl⟩))
  cases hen : nm.2.ended
  · have er : Hid (R = none) := hide (by rw [hR.out, hen]; rfl)
    go_wp2
    go_ret
    exact ⟨T3, s14, by rw [er.out]; rfl⟩
  · replace hR : Hid (R = replayN c co k (mkB tx.1) nm.1) := hide (by rw [hR.out, hen]; rfl)
    have hrn := replayNamed_any i b c co vL vO ls lg k (mkB tx.1) nm.1 w4 T3 hC3 hO3 hsm (by omega)
    obtain ⟨oo, oc, rfl⟩ := row_form hO3
    go_wp2_with fail
    refine hrn.mono ?_
    rintro e5 w5 ⟨T5, s5, hr⟩
    rw [← hR.out] at hr
    cases R with
    | none =>
      obtain rfl := hr
      go_wp2
      go_ret
      exact ⟨T5, s14.trans s5, rfl⟩
    | some co' =>
      obtain ⟨rfl, hr⟩ := hr
      go_wp2
      go_ret
      exact ⟨T5, s14.trans s5, rfl, hr⟩

end Go.Proofs.YtockkceclkcgbaaGreatDoor

/- A record that was read is the record that would be written. -/
namespace Go.Proofs.YtockkceclkcgbaaGreatDoor

theorem encN_add : ∀ (w n m : Nat), encN w (m * 256 ^ w + n) = encN w n
  | 0, _, _ => rfl
  | w + 1, n, m => by
    have ih := encN_add w n (m * 256)
    rw [encN, encN, show m * 256 ^ (w + 1) + n = m * 256 * 256 ^ w + n by rw [Nat.pow_succ]; rw [Nat.mul_assoc, Nat.mul_comm 256 (256 ^ w)], ih]
    congr 1
    rw [Nat.add_comm, Nat.add_mul_div_right _ _ (Nat.pow_pos (by decide))]
    apply UInt8.toNat_inj.1
    simp
theorem encN_decN : ∀ l : Bs, encN l.length (decN l) = l
  | [] => rfl
  | x :: r => by
    rw [decN_cons, List.length_cons, encN, encN_add, encN_decN r]
    congr 1
    rw [Nat.add_comm, Nat.add_mul_div_right _ _ (Nat.pow_pos (by decide)), Nat.div_eq_of_lt (decN_lt r)]
    simp
theorem part_words {s n : Nat} {t d r : Bs} {s2 : Nat} (h : partOf s n t = some (some (d, r, s2))) : d.length = n ∧ s2 = crcF s d ∧ r.length + n + 4 = t.length := by
  unfold partOf at h
  split at h
  · cases h
  · split at h
    · simp at h
      obtain ⟨rfl, rfl, rfl⟩ := h
      refine ⟨by simp; omega, rfl, by simp; omega⟩
    · simp at h
theorem scan_words {s : Nat} {t d r : Bs} {k : UInt8} {s2 : Nat} (h : scanR s t = .got k d r s2) : s2 = recS s k d ∧ d.length < 256 ^ 3 ∧ r.length + d.length + 12 = t.length := by
  unfold scanR at h
  split at h
  · cases h
  · cases h
  · rename_i hd t1 s1 e1
    obtain ⟨l1, x1, y1⟩ := part_words e1
    split at h
    · cases h
    · cases h
    · rename_i d2 t2 s3 e2
      obtain ⟨l2, x2, y2⟩ := part_words e2
      cases h
      match hd, l1 with
      | a :: tl, l1 =>
        have l3 : tl.length = 3 := by simpa using l1
        have e3 : encN 3 (decN tl) = tl := by have := encN_decN tl; rwa [l3] at this
        have e4 : decN tl < 256 ^ 3 := by rw [← l3]; exact decN_lt tl
        simp only [List.drop_succ_cons, List.drop_zero] at l2 y2
        refine ⟨?_, by rw [l2]; exact e4, by omega⟩
        rw [x2, x1]
        show _ = crcF (crcF s (a :: encN 3 d.length)) d
        rw [l2, e3]

theorem scan_kind {s : Nat} {t d r : Bs} {k : UInt8} {s2 : Nat} (h : scanR s t = .got k d r s2) : t.head? = some k := by
  unfold scanR at h
  split at h
  · cases h
  · cases h
  · rename_i hd t1 s1 e1
    split at h
    · cases h
    · cases h
    · cases h
      unfold partOf at e1
      split at e1
      · cases e1
      · rename_i hl
        split at e1
        · cases e1
          cases t with
          | nil => simp at hl
          | cons x r => rfl
        · cases e1

end Go.Proofs.YtockkceclkcgbaaGreatDoor

/- A map of waits that is cleared; a queue as Open leaves it. -/
namespace Go.Proofs.YtockkceclkcgbaaGreatDoor
open Go.RowKit Go.Maps Go.MapKept

theorem WM.clear {w : World} {T : Nat → Tag} {t : Tag} {b : Nat} {f : Int → Option (Int × Bool)} (h : WM w T t b f) :
    ∃ w', (∀ ty, (Builtin.clear_ #[132] ty #[.map (some b)]).run Tryz.prog w = .ok (.tuple #[]) w') ∧ WM w' T t b (fun _ => none) ∧ Step (fun s => s = t) w T w' T := by
  obtain ⟨hT, D, ⟨es, clock, hb, F, hs, hD⟩, hhas, hat, hbd⟩ := h
  have hrun : ∀ ty, (Builtin.clear_ #[132] ty #[.map (some b)]).run Tryz.prog w = .ok (.tuple #[]) { w with heap := w.heap.setIfInBounds b (.map #[] clock) } := fun ty => by
    simp [Builtin.clear_, run_underlying Tryz.underlying132, (MapKept.run_getObj_map hb : (getObj b).run Tryz.prog w = _), (fun o => MapKept.run_setObj_map o hb : ∀ o, (setObj b o).run Tryz.prog w = _), Result.andThen]
  have h1 := (heap_set (o' := .map #[] clock) hb).1
  have h2 := (heap_set (o' := .map #[] clock) hb).2
  exact ⟨_, hrun, ⟨hT, .map [], ⟨#[], clock, h1, ⟨by simp, stamped_empty clock, by simp⟩, by simp, rfl⟩, fun k => rfl, fun k u hk => by simp at hk, fun k hk => by simp at hk⟩, ⟨rfl, rfl, rfl, by simp, fun _ _ => rfl, fun k _ hS => h2 k (fun e => hS (by rw [e]; exact hT))⟩⟩

/-- a group without leases -/
def CG.pg (g : CG) : PG := ⟨g.start, g.done, g.dead, g.tr, fun _ => none⟩
def calmP (p : PG) : PG := { p with wt := fun _ => none }
theorem calm_core (p : PG) : calmP p = p.core.pg := rfl
/-- The queue as Open leaves it: no leases, no delays. -/
structure CO (w : World) (T : Nat → Tag) (i b : Nat) (c : Conf) (co : Core) (vL : Value) (ls : Nat) (lg : Bs) : Prop where
  good : goodC c = true
  ok : COk c co
  mem : ∃ (vB : Value) (mb : Nat) (f : Nat → Nat), Blk w T (.q i 0 0) b #[.int .i64 c.l, .int .i64 c.d, .int .i64 c.s, .int .i64 c.k, .int .i64 0, .int .i64 co.floor, vB, .map (some mb), vL, .int .u32 ls] 105 ∧
    Sub w T (.q i 1 0) vB (co.bodies.map .string) ∧ NM w T (.q i 2 0) mb co.names f ∧ (∀ k p, co.gs[k]? = some p → GM w T i k (f k) p.2.pg) ∧ BRow w T (.q i 1 1) vL lg

theorem cm_fresh {w : World} {T : Nat → Tag} {i b mb : Nat} {c : Conf} (hg : goodC c = true) (hB : Blk w T (.q i 0 0) b (freshQ c mb) 105) (hN : NM w T (.q i 2 0) mb [] (fun _ => 0)) : CM w T i b c .zero (.slice none 0 0) (seedS c) [] := by
  have hgood := hg
  simp only [goodC, Bool.and_eq_true] at hgood
  have hcd := btw_true hgood.2.1
  have hcs := btw_true hgood.2.2.1
  have hck := btw_true hgood.2.2.2
  exact ⟨hg, cok_zero (by omega) (by omega) (by omega) (by omega), _, mb, fun _ => 0, fun _ => newP 0, hB, sub_nil _ _ _, hN, fun k p hp => by simp [Core.zero] at hp, row_nil _ _ _ _ _⟩

/-- how much of its text a scanner has left -/
def restLen (w : World) (b : Nat) : Nat := match w.cell? ⟨b, 0, none⟩ with
  | some (.string s) => s.size
  | _ => 0
theorem rest_len {w : World} {T : Nat → Tag} {t : Tag} {b : Nat} {r : Rd} {s : Nat} (h : ScB w T t b r s) : restLen w b = r.rest.length := by
  unfold restLen
  rw [h.1.cell (rd_cell0 h.2.1)]
  exact mkB_size _

/-- the journal of a queue that is a log's, with one record more -/
theorem cadd_any (i b : Nat) (c : Conf) (co : Core) (vL : Value) (ls : Nat) (lg : Bs) (k : UInt8) (d : Bs) (w : World) (T : Nat → Tag) (h : CM w T i b c co vL ls lg) (hs : ls < 4294967296) (hl : lg.length + d.length ≤ 80000000000000) :
    Calls Tryz.prog 42 #[.pointer (some ⟨b, 8, none⟩), .int .u8 k.toNat, .string (mkB d)] w fun e w' => e = .returned (.tuple #[]) ∧ ∃ T' vL', Step (LT i) w T w' T' ∧ CM w' T' i b c co vL' (recS ls k d) (lg ++ recB ls k d) := by
  obtain ⟨h1, h2, vB, mb, f, ps, hB, hS, hN, hG, hL⟩ := h
  have ha := add_any i b _ _ _ _ _ _ _ _ vL ls lg k (mkB d) w T hB hL hs (by rw [mkB_size]; exact hl)
  rw [mkB_list] at ha
  refine ha.mono ?_
  rintro e w' ⟨rfl, T', vL', s1, hB1, hL1⟩
  refine ⟨rfl, T', vL', s1, h1, h2, vB, mb, f, ps, hB1, hS.step s1 (by simp [LT]), hN.step s1 (by simp [LT]), fun k p hp => ⟨(hG k p hp).1.step s1 (fun r hr => by simp [LT]; omega), (hG k p hp).2⟩, hL1⟩

end Go.Proofs.YtockkceclkcgbaaGreatDoor

/- Each record that is read back does something that can be done so often alone: how long the log of any text can grow. -/
namespace Go.Proofs.YtockkceclkcgbaaGreatDoor
open Go.RowKit

theorem replayN_grows {c : Conf} {q q' : Core} {k : UInt8} {s : ByteArray} {offs : List Int} (hq : COk c q) (h : replayN c q k s offs = some q') : phi q + 1 ≤ phi q' := by
  unfold replayN at h
  by_cases h1 : k = 114
  · rw [if_pos h1] at h
    cases hf : q.find s with
    | none => rw [hf] at h; cases h
    | some g =>
      rw [hf] at h
      simp only at h
      by_cases ho : offs = []
      · rw [if_pos ho] at h; cases h
      · rw [if_neg ho] at h
        cases hs : q.serveAll c g offs with
        | none => rw [hs] at h; cases h
        | some g' =>
          rw [hs] at h
          simp only [Option.map_some, Option.some.injEq] at h
          have hm := (find_mem hq.once).1 hf
          have a := phiG_serveAll hq offs g g' (show GOk c q g from hq.grp _ hm) hs
          have b := phi_put (g' := g') hq.once hf
          have hl : 0 < offs.length := List.length_pos_iff.2 ho
          rw [← h, b]
          omega
  · rw [if_neg h1] at h
    match offs, h with
    | [], h => cases h
    | _ :: _ :: _, h => cases h
    | [o], h =>
      simp only at h
      by_cases h2 : k = 103
      · rw [if_pos h2] at h
        cases hj : decide (q.joinE s o q.floor = 0) with
        | false => rw [hj] at h; cases h
        | true =>
          rw [hj] at h
          simp only [cond_true, Option.some.injEq] at h
          rw [← h, phi_join]
          omega
      · rw [if_neg h2] at h
        by_cases h3 : k = 97
        · rw [if_pos h3] at h
          cases hf : q.find s with
          | none => rw [hf] at h; cases h
          | some g =>
            rw [hf] at h
            simp only at h
            cases ht : decide (g.tr o = 0) with
            | true => rw [ht] at h; cases h
            | false =>
              rw [ht] at h
              simp only [cond_false, Option.some.injEq] at h
              have hm := (find_mem hq.once).1 hf
              have hg : GOk c q g := hq.grp _ hm
              have ht' : g.tr o ≠ 0 := of_decide_eq_false ht
              have hr := hg.out o ht'
              have hfl := hq.fl
              have hst := hq.stop
              have hlo : q.floor ≤ q.first g := by unfold Core.first; omega
              have hn : hasB g.done o = false := by
                cases e : hasB g.done o with
                | false => rfl
                | true => exact absurd (hg.gone o e) ht'
              have a := phiG_finish hq hg (o := o) (by omega) (by omega) hn
              have b := phi_put (g' := g.finish o o) hq.once hf
              rw [← h, b]
              omega
        · rw [if_neg h3] at h; cases h
theorem replay_grows {c : Conf} {q q' : Core} {k : UInt8} {d : Bs} (hq : COk c q) (h : replayC c q false k d = some q') : phi q + 1 ≤ phi q' := by
  unfold replayC at h
  by_cases h1 : k = 101
  · rw [if_pos h1] at h
    cases hj : decide (q.keepE c (mkB d) = 0) with
    | false => rw [hj] at h; cases h
    | true =>
      rw [hj] at h
      simp only [cond_true, Option.some.injEq] at h
      rw [← h, phi_keep]
      omega
  · rw [if_neg h1] at h
    by_cases h2 : k = 102
    · rw [if_pos h2] at h
      cases hj : (decide (d = []) && decide (0 < q.gone c)) with
      | false => rw [hj] at h; cases h
      | true =>
        rw [hj] at h
        simp only [cond_true, Option.some.injEq] at h
        simp only [Bool.and_eq_true, decide_eq_true_eq] at hj
        rw [← h]
        exact phi_release hq hj.2
    · rw [if_neg h2] at h
      by_cases h3 : k = 99
      · rw [if_pos h3] at h; cases h
      · rw [if_neg h3] at h
        simp only at h
        cases hj : (Rd.mk d false).text.2.nums.2.ended with
        | false => rw [hj] at h; cases h
        | true =>
          rw [hj] at h
          exact replayN_grows hq h
/-- the log of any text that is read stays below so many bytes -/
def Grown (lg : Bs) (q : Core) : Prop := (lg.length : Int) ≤ 16777228 * (phi q + 1)
theorem Grown.bound {lg : Bs} {c : Conf} {q : Core} (h : Grown lg q) (hq : COk c q) : lg.length ≤ 500000000000 := by
  have := phi_bound hq
  unfold Grown at h
  omega
theorem grown_nil {c : Conf} {q : Core} (hq : COk c q) : Grown [] q := by
  have := phi_bound hq
  unfold Grown
  simp
  omega
theorem grown_next {c : Conf} {q q' : Core} {lg d : Bs} {s : Nat} {k : UInt8} (h : Grown lg q) (hq : COk c q) (hq' : COk c q') (hd : d.length < 256 ^ 3) (hr : replayC c q (decide (lg = [])) k d = some q') : Grown (lg ++ recB s k d) q' := by
  have h1 := phi_bound hq
  have h2 := phi_bound hq'
  unfold Grown at h ⊢
  rw [List.length_append, recB_length]
  by_cases e : lg = []
  · subst e
    simp
    omega
  · have hd' : decide (lg = []) = false := decide_eq_false e
    rw [hd'] at hr
    have h3 := replay_grows hq hr
    omega

end Go.Proofs.YtockkceclkcgbaaGreatDoor

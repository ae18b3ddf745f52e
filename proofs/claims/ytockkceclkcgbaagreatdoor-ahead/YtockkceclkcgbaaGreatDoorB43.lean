/- What Compact writes of a group: putGroup. -/
import Derived.Test.YtockkceclkcgbaaGreatDoorB37
import Derived.Shelf.SlGeneric
import Derived.Shelf.SlIter.Nil
import Derived.Shelf.SortM.Plain
import Derived.Shelf.SortM.SortNone
import Derived.Ground.GgzProg
import Derived.Ground.SlgmProg
namespace Go.Proofs.YtockkceclkcgbaaGreatDoor
open Go.RowKit Go.Maps

/-- the tag of what is being written -/
abbrev wT (i : Nat) : Tag := .q i 1 2

theorem rowN_one (w : World) (T : Nat → Tag) (t : Tag) (a : Int) : Row (w.alloc (.cells #[.int .i64 a] 3)) (retag T w.heap.size t) t 3 1 (.slice (some ⟨w.heap.size, 0, none⟩) 1 1) 1 ([a].map intV) :=
  ⟨⟨rfl, .inr ⟨w.heap.size, 1, _, rfl, Nat.zero_le _, heap_alloc_new w _, Nat.le_refl _, by decide, rfl, rfl⟩⟩, fun g hg => by simp [Value.ownBlock] at hg; subst hg; exact retag_same _ _ _⟩
theorem rowN_two (w : World) (T : Nat → Tag) (t : Tag) (a b : Int) : Row (w.alloc (.cells #[.int .i64 a, .int .i64 b] 3)) (retag T w.heap.size t) t 3 1 (.slice (some ⟨w.heap.size, 0, none⟩) 2 2) 2 ([a, b].map intV) :=
  ⟨⟨rfl, .inr ⟨w.heap.size, 2, _, rfl, Nat.zero_le _, heap_alloc_new w _, Nat.le_refl _, by decide, rfl, rfl⟩⟩, fun g hg => by simp [Value.ownBlock] at hg; subst hg; exact retag_same _ _ _⟩
theorem nums_one (a : Int) : numsB [a] = encN 2 a.toNat := by simp [numsB]
theorem nums_two (a b : Int) : numsB [a, b] = encN 2 a.toNat ++ encN 2 b.toNat := by simp [numsB]
/-- one number more -/
theorem putOne_any (i : Nat) (v : Value) (l : Bs) (a : Int) (w : World) (T : Nat → Tag) (h : BRow w T (wT i) v l) (ha : 0 ≤ a ∧ a < 65536) (hl : l.length ≤ 10000000000000) :
    Calls Tryz.prog 94 #[v, .slice (some ⟨w.heap.size, 0, none⟩) 1 1] (w.alloc (.cells #[.int .i64 a] 3)) fun e w' => ∃ v' T', e = .returned v' ∧ Step (fun s => s = wT i) w T w' T' ∧ BRow w' T' (wT i) v' (l ++ encN 2 a.toNat) := by
  have sn := step_new w T (.cells #[.int .i64 a] 3) .free (fun _ => False)
  have hp := putNumbers_any (wT i) .free v _ l [a] _ _ (h.step sn (fun h => h)) (rowN_one w T .free a) (by simp) (by simpa using ha) (by simp; omega)
  rw [nums_one] at hp
  refine hp.mono ?_
  rintro e w' ⟨v', T', rfl, s', r'⟩
  exact ⟨v', T', rfl, (sn.mono (fun _ h => h.elim)).trans s', r'⟩

theorem triesB_succ (g : CG) : ∀ (n : Nat) (o : Int), triesB g (n + 1) o = triesB g n o ++ [byteG g (o + n)]
  | 0, o => by simp [triesB]
  | n + 1, o => by
    rw [triesB, triesB_succ g n (o + 1), triesB]
    simp only [List.cons_append, List.cons.injEq, true_and, List.append_cancel_left_eq, List.cons.injEq, and_true]
    congr 1
    omega
theorem tries_len (g : CG) : ∀ (n : Nat) (o : Int), (triesB g n o).length = n
  | 0, _ => rfl
  | n + 1, o => by rw [triesB, List.length_cons, tries_len g n]
theorem flat_len : ∀ (l : List Dl), (∀ x ∈ l, x.body.size ≤ 64) → (l.flatMap deadB).length ≤ 67 * l.length
  | [], _ => by simp
  | x :: r, h => by
    have h1 := h x (by simp)
    have h2 := flat_len r (fun y hy => h y (by simp [hy]))
    have h3 : x.body.data.toList.length = x.body.size := Array.length_toList
    simp only [List.flatMap_cons, List.length_append, List.length_cons, deadB, textB, encN_length]
    omega
theorem flat_take {l : List Dl} {k : Nat} {x : Dl} (h : l[k]? = some x) : (l.take (k + 1)).flatMap deadB = (l.take k).flatMap deadB ++ deadB x := by
  obtain ⟨hl, rfl⟩ := List.getElem?_eq_some_iff.1 h
  rw [List.take_succ_eq_append_getElem hl, List.flatMap_append]
  simp

attribute [local go_sem] over_cell

set_option maxRecDepth 100000 in
set_option maxHeartbeats 4000000 in
theorem putGroup_any (i k b gb : Nat) (p : PG) (v : Value) (l : Bs) (fl : Int) (n : Nat) (ao : Option Addr) (cap : Nat) (a0 a1 a2 a3 a4 a7 a8 a9 : Value) (w : World) (T : Nat → Tag) (hB : Blk w T (.q i 0 0) b #[a0, a1, a2, a3, a4, .int .i64 fl, .slice ao n cap, a7, a8, a9] 105)
    (hG : GM w T i k gb p) (hr : BRow w T (wT i) v l) (hset : setB p.done = true) (hfl : 0 ≤ fl) (hst : fl + n ≤ 400) (hs0 : 0 ≤ p.start ∧ p.start ≤ fl + n) (htr : ∀ o, 0 ≤ p.tr o ∧ p.tr o ≤ 10) (hdl : p.dead.length ≤ 400) (hdd : ∀ x ∈ p.dead, (0 ≤ x.off ∧ x.off < 400) ∧ x.body.size ≤ 64) (hl : l.length ≤ 1000000) :
    Calls Tryz.prog 102 #[.pointer (some ⟨b, 0, none⟩), v, .pointer (some ⟨gb, 0, none⟩)] w fun e w' => ∃ v' T', e = .returned v' ∧ Step (fun s => s = wT i) w T w' T' ∧
      BRow w' T' (wT i) v' (l ++ (encN 2 p.start.toNat ++ (triesB p.core (fl + n - max fl p.start).toNat (max fl p.start) ++ (encN 2 p.dead.length ++ p.dead.flatMap deadB)))) := by
  have hG0 := hG
  obtain ⟨vD, vE, tb, wb, hBg, hD, hE, hT, hW⟩ := hG0
  have d0 := hBg.cell (j := 0) (v := .int .i64 p.start) rfl
  have lg := hBg.lt
  have hp1 := putOne_any i v l p.start w T hr (by omega) (by omega)
  obtain ⟨vo, vc, rfl⟩ := row_form hr
  clear hBg hD hE hT hW
  go_enter Tryz.func102, Tryz.ntmps102
  go_wp2_with fail
  refine hp1.mono ?_
  clear hp1
  rintro e1 w1 ⟨v1, T1, rfl, s1, r1⟩
  have hB1 := hB.step s1 (by simp)
  have hG1 := hG.step s1 (fun r hr => by simp; omega)
  have lb1 := hB1.lt
  have lg1 := hG1.lt
  have c5 := hB1.cell (j := 5) (v := .int .i64 fl) rfl
  have d01 := hG1.start
  have hfi := qfirst_any b gb fl p.start w1 lb1 lg1 c5 d01
  clear d0 lg hB hG hr
  go_wp2_with fail
  refine hfi.mono ?_
  clear hfi c5 d01
  rintro e2 w2 ⟨rfl, hb2⟩
  have g2 := step_below (fun _ => False) T1 hb2
  have hB2 := hB1.step g2 (fun h => h)
  have hG2 := hG1.step g2 (fun _ _ h => h)
  have r2 := r1.step g2 (fun h => h)
  have s2 := s1.trans (g2.mono (fun _ h => h.elim))
  have hmx : 0 ≤ max fl p.start ∧ max fl p.start ≤ fl + n := by omega
  obtain ⟨o0, ho0⟩ : ∃ o0 : Nat, max fl p.start = o0 := ⟨(max fl p.start).toNat, by omega⟩
  rw [ho0] at hmx ⊢
  obtain ⟨m, hm⟩ : ∃ m : Nat, fl + n - (o0 : Int) = m := ⟨(fl + n - (o0 : Int)).toNat, by omega⟩
  clear hB1 hG1 r1 s1 hb2 g2 lb1 lg1
  have hm4 : m ≤ 400 := by omega
  have hlen1 := encN_length 2 p.start.toNat
  obtain ⟨bs1, hbs1⟩ : ∃ bs1, Hid (encN 2 p.start.toNat = bs1) := ⟨_, hide rfl⟩
  rw [hbs1.out] at r2 hlen1
  have hfin : Hid (∀ x : Bs, l ++ (encN 2 p.start.toNat ++ (triesB p.core (fl + n - max fl p.start).toNat (max fl p.start) ++ x)) = l ++ bs1 ++ triesB p.core m o0 ++ x) := hide (fun x => by rw [hbs1.out, ho0, hm, Int.toNat_natCast]; simp)
  clear hbs1
  go_wp2_with fail
  go_loopw [1, 7] (fun u1 u7 wr => ∃ (o : Nat) (T' : Nat → Tag), o0 ≤ o ∧ o ≤ o0 + m ∧ u7 = .int .i64 o ∧ Step (fun s => s = wT i) w T wr T' ∧ Blk wr T' (.q i 0 0) b #[a0, a1, a2, a3, a4, .int .i64 fl, .slice ao n cap, a7, a8, a9] 105 ∧ GM wr T' i k gb p ∧ BRow wr T' (wT i) u1 (l ++ bs1 ++ triesB p.core (o - o0) o0)) (fun _ u7 _ => (fl + n - intOf u7).toNat)
  case atStart => exact ⟨o0, T1, Nat.le_refl _, by omega, rfl, s2, hB2, hG2, by rw [Nat.sub_self]; simpa [triesB] using r2⟩
  case round =>
    obtain ⟨o, T3, hj0, hj, rfl, s3, hB3, hG3, r3⟩ := hrel
    clear hB2 hG2 r2 s2
    have c5 := hB3.cell (j := 5) (v := .int .i64 fl) rfl
    have c6 := hB3.cell (j := 6) (v := .slice ao n cap) rfl
    have hen := qend_any b fl ao n cap wr hB3.lt c5 c6 hfl (by omega) (by omega)
    have hlt3 := tries_len p.core (o - o0) o0
    have hL3l : (l ++ bs1 ++ triesB p.core (o - o0) o0).length ≤ 1100000 := by simp; omega
    have hnext : ∀ x, byteG p.core ((o0 : Int) + (o - o0 : Nat)) = x → (l ++ bs1 ++ triesB p.core (o - o0) o0) ++ [x] = l ++ bs1 ++ triesB p.core (o + 1 - o0) o0 := fun x hx => by
      rw [show o + 1 - o0 = o - o0 + 1 by omega, triesB_succ, hx, List.append_assoc]
    have hlast : Hid (o = o0 + m → l ++ bs1 ++ triesB p.core (o - o0) o0 = l ++ bs1 ++ triesB p.core m o0) := hide (fun e => by rw [show o - o0 = m by omega])
    replace hnext := hide hnext
    generalize l ++ bs1 ++ triesB p.core (o - o0) o0 = L3 at *
    obtain ⟨v3, v3c, rfl⟩ := row_form r3
    go_wp2_with fail
    refine hen.mono ?_
    clear hen c5 c6
    rintro e4 w4 ⟨rfl, hb4⟩
    have g4 := step_below (fun _ => False) T3 hb4
    have hB4 := hB3.step g4 (fun h => h)
    have hG4 := hG3.step g4 (fun _ _ h => h)
    have r4 := r3.step g4 (fun h => h)
    have s4 := s3.trans (g4.mono (fun _ h => h.elim))
    clear hB3 hG3 r3 s3 hb4 g4
    by_cases hjl : o < o0 + m
    · have hlt : (o : Int) < fl + n := by omega
      have hid := isDone_any i k gb p (o : Int) w4 T3 hG4 hset
      go_wp2_with fail
      refine hid.mono ?_
      clear hid
      rintro e5 w5 ⟨rfl, hb5⟩
      have g5 := step_below (fun _ => False) T3 hb5
      have hB5 := hB4.step g5 (fun h => h)
      have hG5 := hG4.step g5 (fun _ _ h => h)
      have r5 := r4.step g5 (fun h => h)
      have s5 := s4.trans (g5.mono (fun _ h => h.elim))
      clear hB4 hG4 r4 s4 hb5 g5
      cases hdn : hasB p.done (o : Int)
      · obtain ⟨z, hz⟩ : ∃ z : Nat, p.tr (o : Int) = z := ⟨(p.tr (o : Int)).toNat, by have := htr (o : Int); omega⟩
        have hz10 : z ≤ 10 := by have := htr (o : Int); omega
        have hbg : byteG p.core ((o0 : Int) + (o - o0 : Nat)) = UInt8.ofNat z := by
          have e : ((o0 : Int) + (o - o0 : Nat)) = (o : Int) := by omega
          unfold byteG
          rw [e, show p.core.done = p.done from rfl, hdn, show p.core.tr = p.tr from rfl, hz]
          rfl
        obtain ⟨vD, vE, tb, wb, hBg, hD, hE, hT, hW⟩ := id hG5
        have lg5 := hBg.lt
        have d3 := hBg.cell (j := 3) (v := .map (some tb)) rfl
        have lkT := hT.look (n := (o : Int)) (by unfold i64; omega)
        rw [hz] at lkT
        have hbv : byteV (UInt8.ofNat z) = .int .u8 (z : Int) := by
          unfold byteV
          rw [UInt8.toNat_ofNat', Nat.mod_eq_of_lt (by omega)]
        have hmod : (z : Int) % 256 = z := by omega
        have hal := step_alloc w5 T3 (.cells #[.int .u8 (z : Int)] 5) (fun _ => False)
        have hRa := r5.step hal (fun h => h)
        have hsr := src_byte (w5.alloc (.cells #[.int .u8 (z : Int)] 5)) w5.heap.size (UInt8.ofNat z) (by rw [hbv]; exact (blk_new w5 T3 #[.int .u8 (z : Int)] 5 .free).cell (j := 0) rfl)
        clear hBg hD hE hT hW
        go_wp2_with (first
          | (at_builtin; refine wpList_append_bytes rfl _ _ 100 rfl _ L3 rfl hRa _ [UInt8.ofNat z] rfl hsr (by simp; omega) ?_; intro v6 w6 T6 r6 hs6)
          | go_in)
        have hB6 := (hB5.step hal (fun h => h)).step hs6 (by simp)
        have hG6 := (hG5.step hal (fun _ _ h => h)).step hs6 (fun r hr => by simp; omega)
        have s6 := (s5.trans (hal.mono (fun _ h => h.elim))).trans hs6
        rw [hnext.out _ hbg] at r6
        have P6 := hide (And.intro s6 (And.intro hB6 (And.intro hG6 r6)))
        clear s6 hB6 hG6 r6 hB5 hG5 r5 s5 hRa hsr hal hs6
        go_wp2
        exact ⟨⟨o + 1, T6, by omega, by omega, by simp, P6.out.1, P6.out.2.1, P6.out.2.2.1, P6.out.2.2.2⟩, by simp [intOf]; omega⟩
      · have hbg : byteG p.core ((o0 : Int) + (o - o0 : Nat)) = 255 := by
          have e : ((o0 : Int) + (o - o0 : Nat)) = (o : Int) := by omega
          unfold byteG
          rw [e, show p.core.done = p.done from rfl, hdn]
          rfl
        have hal := step_alloc w5 T3 (.cells #[.int .u8 255] 5) (fun _ => False)
        have hRa := r5.step hal (fun h => h)
        have hsr := src_byte (w5.alloc (.cells #[.int .u8 255] 5)) w5.heap.size 255 ((blk_new w5 T3 #[.int .u8 255] 5 .free).cell (j := 0) rfl)
        go_wp2_with (first
          | (at_builtin; refine wpList_append_bytes rfl _ _ 100 rfl _ L3 rfl hRa _ [255] rfl hsr (by simp; omega) ?_; intro v6 w6 T6 r6 hs6)
          | go_in)
        have hB6 := (hB5.step hal (fun h => h)).step hs6 (by simp)
        have hG6 := (hG5.step hal (fun _ _ h => h)).step hs6 (fun r hr => by simp; omega)
        have s6 := (s5.trans (hal.mono (fun _ h => h.elim))).trans hs6
        rw [hnext.out _ hbg] at r6
        have P6 := hide (And.intro s6 (And.intro hB6 (And.intro hG6 r6)))
        clear s6 hB6 hG6 r6 hB5 hG5 r5 s5 hRa hsr hal hs6
        go_wp2
        exact ⟨⟨o + 1, T6, by omega, by omega, by simp, P6.out.1, P6.out.2.1, P6.out.2.2.1, P6.out.2.2.2⟩, by simp [intOf]; omega⟩
    · have eo : o = o0 + m := by omega
      replace hfin : Hid (∀ x : Bs, l ++ (encN 2 p.start.toNat ++ (triesB p.core (fl + n - max fl p.start).toNat (max fl p.start) ++ x)) = L3 ++ x) := hide (fun x => by rw [hfin.out, hlast.out eo])
      obtain ⟨vD, vE, tb, wb, hBg, hD, hE, hT, hW⟩ := id hG4
      have lg4 := hBg.lt
      have d2 := hBg.cell (j := 2) (v := vE) rfl
      obtain ⟨eo, ec, rfl⟩ := row_form hE
      have hp5 := putOne_any i _ L3 p.dead.length w4 T3 r4 (by omega) (by omega)
      rw [Int.toNat_natCast] at hp5
      have hlen5 := encN_length 2 p.dead.length
      obtain ⟨bs5, hbs5⟩ : ∃ bs5, Hid (encN 2 p.dead.length = bs5) := ⟨_, hide rfl⟩
      rw [hbs5.out] at hp5 hlen5
      clear hBg hD hT hW hlast hnext
      go_wp2_with fail
      refine hp5.mono ?_
      clear hp5
      rintro e5 w5 ⟨v5, T5, rfl, s5, r5⟩
      have hG5 := hG4.step s5 (fun r hr => by simp; omega)
      have s05 := s4.trans s5
      have hE5 := hE.step s5 (by simp)
      have d25 : w5.cell? ⟨gb, 2, none⟩ = some (.slice eo p.dead.length ec) := (s5.cell (p := ⟨gb, 2, none⟩) lg4 (by obtain ⟨_, _, _, _, hBg, _⟩ := hG4; rw [hBg.1]; simp)).trans d2
      have lg5 := hG5.lt
      clear hB4 hG4 r4 s4 s5 d2 lg4 hE
      have hL5l : (L3 ++ bs5).length ≤ 1100002 := by simp; omega
      replace hfin : Hid (∀ x : Bs, l ++ (encN 2 p.start.toNat ++ (triesB p.core (fl + n - max fl p.start).toNat (max fl p.start) ++ (encN 2 p.dead.length ++ x))) = L3 ++ bs5 ++ x) := hide (fun x => by rw [hfin.out, hbs5.out, List.append_assoc])
      clear hbs5
      generalize L3 ++ bs5 = L5 at *
      go_wp2_with fail
      go_loopw [1, 55] (fun u1 u55 wr => ∃ (j : Nat) (T' : Nat → Tag), j ≤ p.dead.length ∧ u55 = .int .i64 j ∧ Step (fun s => s = wT i) w T wr T' ∧ Row wr T' (.q i 5 k) 82 3 (.slice eo p.dead.length ec) p.dead.length (dlVals p.dead) ∧ BRow wr T' (wT i) u1 (L5 ++ (p.dead.take j).flatMap deadB)) (fun _ u55 _ => p.dead.length - (intOf u55).toNat)
      case atStart => exact ⟨0, T5, Nat.zero_le _, rfl, s05, hE5, by simpa using r5⟩
      case round =>
        obtain ⟨j, T6, hj, rfl, s6, hE6, r6⟩ := hrel
        clear hG5 r5 s05 hE5 d25 lg5
        by_cases hjl : j < p.dead.length
        · obtain ⟨x, hx⟩ : ∃ x, p.dead[j]? = some x := ⟨_, List.getElem?_eq_getElem hjl⟩
          obtain ⟨⟨hx0, hx1⟩, hx2⟩ := hdd x (List.mem_of_getElem? hx)
          obtain ⟨y0, y1, y2⟩ := dlVals_at p.dead j x hx
          obtain ⟨eb, ec2, e⟩ := row_some hE6 (by omega)
          cases e
          have q0 := hE6.cell y0
          have q1 := hE6.cell y1
          have q2 := hE6.cell y2
          have le := hE6.lt
          have hfl6 : ((p.dead.take j).flatMap deadB).length ≤ 67 * j := Nat.le_trans (flat_len _ (fun y hy => (hdd y (List.mem_of_mem_take hy)).2)) (by rw [List.length_take]; omega)
          have hL6l : (L5 ++ (p.dead.take j).flatMap deadB).length ≤ 1130000 := by rw [List.length_append]; omega
          have hnext : Hid (L5 ++ (p.dead.take j).flatMap deadB ++ encN 2 x.off.toNat ++ textB x.body = L5 ++ (p.dead.take (j + 1)).flatMap deadB) := hide (by rw [flat_take hx]; simp [deadB])
          generalize L5 ++ (p.dead.take j).flatMap deadB = L6 at *
          clear y0 y1 y2
          have sn := step_new wr T6 (.cells #[.int .i64 x.off, .int .i64 x.tr, .string x.body] 82) .free (fun _ => False)
          have hO := blk_new wr T6 #[.int .i64 x.off, .int .i64 x.tr, .string x.body] 82 .free
          have hE7 := hE6.step sn (fun h => h)
          have r7 := r6.step sn (fun h => h)
          have s7 := s6.trans (sn.mono (fun _ h => h.elim))
          obtain ⟨v7, v7c, rfl⟩ := row_form r7
          clear hE6 r6 s6 sn
          go_wp2_with fail
          generalize retag T6 wr.heap.size .free = T7 at *
          generalize wr.alloc (.cells #[.int .i64 x.off, .int .i64 x.tr, .string x.body] 82) = w7 at *
          generalize wr.heap.size = nb at hO ⊢
          have o0' := hO.cell (j := 0) (v := .int .i64 x.off) rfl
          have o2' := hO.cell (j := 2) (v := .string x.body) rfl
          have lO := hO.lt
          have gd := step_below (fun _ => False) T7 (Below.refl w7.heap.size w7).drew
          have hOd := hO.step gd (fun h => h)
          have rd := r7.step gd (fun h => h)
          have hp8 := putOne_any i _ L6 x.off w7.drew T7 rd (by omega) (by omega)
          have hpt := fun (v8 : Value) (w8 : World) (T8 : Nat → Tag) (h : BRow w8 T8 (wT i) v8 (L6 ++ encN 2 x.off.toNat)) => putText_any (wT i) v8 _ x.body w8 T8 h (by omega) (by rw [List.length_append, encN_length]; omega)
          go_region_held3 (fun w' => w'.cell? ⟨nb, 0, none⟩ = some (.int .i64 x.off) ∧ w'.cell? ⟨nb, 2, none⟩ = some (.string x.body)) (go_keep) (first
            | (go_at_call 94; refine hp8.mono ?_; clear hp8; rintro e8 w8 ⟨v8, T8, rfl, s8, r8⟩; have hO8 := hOd.step s8 (by simp); have k0 := hO8.cell (j := 0) (v := .int .i64 x.off) rfl; have k2 := hO8.cell (j := 2) (v := .string x.body) rfl; have kl := hO8.lt)
            | (go_at_call 99; refine (hpt _ _ _ r8).mono ?_; clear hpt; rintro e9 w9 ⟨v9, T9, rfl, s9, r9⟩; have hO9 := hO8.step s9 (by simp); have m0 := hO9.cell (j := 0) (v := .int .i64 x.off) rfl; have m2 := hO9.cell (j := 2) (v := .string x.body) rfl; have ml := hO9.lt))
          all_goals
            have s09 := (s7.trans (gd.mono (fun _ h => (h.elim : _ = wT i)))).trans (s8.trans s9)
            have hE9 := ((hE7.step gd (fun h => h)).step s8 (by simp)).step s9 (by simp)
            rw [hnext.out] at r9
            have P9 := hide (And.intro s09 (And.intro hE9 r9))
            clear s09 hE9 r9 s8 s9 r8 hO8 hO9 s7 hE7 r7 hO hOd rd gd
            go_wp2
            exact ⟨⟨j + 1, T9, by omega, by simp, P9.out.1, P9.out.2.1, P9.out.2.2⟩, by simp [intOf]; omega⟩
        · have ej : j = p.dead.length := by omega
          subst ej
          rw [List.take_length] at r6
          rw [← hfin.out] at r6
          obtain ⟨v6, v6c, rfl⟩ := row_form r6
          go_wp2
          go_ret
          exact ⟨_, T6, rfl, s6, r6⟩

end Go.Proofs.YtockkceclkcgbaaGreatDoor

/- slices.Sorted of a map's keys: the names of the groups, in order. -/
namespace Go.Proofs.YtockkceclkcgbaaGreatDoor
open Go.RowKit Go.Maps Go.Sort Go.Shelf

def keysL_ren : Go.Shelf.Ren := ⟨fun | 7 => 101 | 10 => 135 | n => n, fun | 23 => 99 | 26 => 9 | 3 => 129 | 28 => 172 | 0 => 0 | 27 => 171 | 33 => 197 | 4 => 4 | n => n, fun | n => n⟩
theorem keysL : Go.Proofs.SlLaysZ.n7 Tryz.prog keysL_ren := {
  mixed := by kernel_rfl
  f7 := ⟨Tryz.f101.name, by decide, Tryz.func101.trans (congrArg some (by kernel_rfl))⟩
  f10 := ⟨Tryz.f135.name, by decide, Tryz.func135.trans (congrArg some (by kernel_rfl))⟩
  t0 := Tryz.underlying0
  a0 := Tryz.isAgg0
  z0 := Tryz.sizeOf0
  v0 := Tryz.zeroValue0
  t4 := Tryz.underlying4
  a4 := Tryz.isAgg4
  z4 := Tryz.sizeOf4
  v4 := Tryz.zeroValue4
  t23 := Tryz.underlying99
  a23 := Tryz.isAgg99
  z23 := Tryz.sizeOf99
  v23 := Tryz.zeroValue99
  t26 := Tryz.underlying9
  a26 := Tryz.isAgg9
  z26 := Tryz.sizeOf9
  v26 := Tryz.zeroValue9
  t27 := Tryz.underlying171
  a27 := Tryz.isAgg171
  z27 := Tryz.sizeOf171
  v27 := Tryz.zeroValue171
  t28 := Tryz.underlying172
  a28 := Tryz.isAgg172
  z28 := Tryz.sizeOf172
  v28 := Tryz.zeroValue172
  t33 := Tryz.underlying197
  a33 := Tryz.isAgg197
  z33 := Tryz.sizeOf197
  v33 := Tryz.zeroValue197 }
def sortedL_ren : Go.Shelf.Ren := ⟨fun | 6 => 100 | 8 => 133 | 9 => 134 | 11 => 154 | 13 => 156 | 12 => 155 | 23 => 169 | 24 => 170 | 14 => 160 | 15 => 161 | 16 => 162 | 17 => 163 | 18 => 164 | 19 => 165 | 20 => 166 | 21 => 167 | 22 => 168 | 25 => 172 | 26 => 173 | 27 => 174 | 28 => 175 | 29 => 176 | 30 => 177 | 31 => 180 | n => n, fun | 26 => 9 | 28 => 172 | 24 => 54 | 0 => 0 | 3 => 3 | 37 => 212 | 48 => 101 | 50 => 244 | 4 => 4 | 40 => 236 | 39 => 235 | 45 => 140 | 5 => 5 | 9 => 9 | 51 => 245 | 55 => 249 | 57 => 253 | 58 => 254 | 33 => 197 | n => n, fun | n => n⟩
theorem sortedL : Go.Proofs.SlLaysZ.n6 Tryz.prog sortedL_ren := {
  mixed := by kernel_rfl
  f6 := ⟨Tryz.f100.name, by decide, Tryz.func100.trans (congrArg some (by kernel_rfl))⟩
  f8 := ⟨Tryz.f133.name, by decide, Tryz.func133.trans (congrArg some (by kernel_rfl))⟩
  f11 := ⟨Tryz.f154.name, by decide, Tryz.func154.trans (congrArg some (by kernel_rfl))⟩
  t0 := Tryz.underlying0
  a0 := Tryz.isAgg0
  z0 := Tryz.sizeOf0
  v0 := Tryz.zeroValue0
  t24 := Tryz.underlying54
  a24 := Tryz.isAgg54
  z24 := Tryz.sizeOf54
  v24 := Tryz.zeroValue54
  t26 := Tryz.underlying9
  a26 := Tryz.isAgg9
  z26 := Tryz.sizeOf9
  v26 := Tryz.zeroValue9
  t28 := Tryz.underlying172
  a28 := Tryz.isAgg172
  z28 := Tryz.sizeOf172
  v28 := Tryz.zeroValue172
  i26 := by kernel_rfl }
def sortL_ren : Go.Shelf.Ren := ⟨fun | 6 => 134 | 8 => 156 | 9 => 155 | 19 => 169 | 20 => 170 | 21 => 160 | 22 => 161 | 23 => 162 | 24 => 163 | 25 => 164 | 26 => 165 | 27 => 166 | 28 => 167 | 29 => 168 | 36 => 172 | 31 => 173 | 32 => 174 | 37 => 175 | 38 => 176 | 39 => 177 | 41 => 180 | n => n, fun | 27 => 54 | 29 => 9 | 3 => 3 | 32 => 212 | 26 => 54 | 0 => 0 | 44 => 101 | 46 => 244 | 4 => 4 | 36 => 236 | 35 => 235 | 41 => 140 | 5 => 5 | 9 => 9 | 53 => 245 | 57 => 249 | 63 => 253 | 64 => 254 | n => n, fun | n => n⟩
theorem sortL : Go.Proofs.SlLaysM.n6 Tryz.prog sortL_ren := {
  mixed := by kernel_rfl
  f6 := ⟨Tryz.f134.name, by decide, Tryz.func134.trans (congrArg some (by kernel_rfl))⟩
  f8 := Tryz.func156.trans (congrArg some (by kernel_rfl))
  f9 := ⟨Tryz.f155.name, by decide, Tryz.func155.trans (congrArg some (by kernel_rfl))⟩
  f19 := Tryz.func169.trans (congrArg some (by kernel_rfl))
  f20 := Tryz.func170.trans (congrArg some (by kernel_rfl))
  f21 := ⟨Tryz.f160.name, by decide, Tryz.func160.trans (congrArg some (by kernel_rfl))⟩
  f22 := ⟨Tryz.f161.name, by decide, Tryz.func161.trans (congrArg some (by kernel_rfl))⟩
  f23 := ⟨Tryz.f162.name, by decide, Tryz.func162.trans (congrArg some (by kernel_rfl))⟩
  f24 := ⟨Tryz.f163.name, by decide, Tryz.func163.trans (congrArg some (by kernel_rfl))⟩
  f25 := ⟨Tryz.f164.name, by decide, Tryz.func164.trans (congrArg some (by kernel_rfl))⟩
  f26 := ⟨Tryz.f165.name, by decide, Tryz.func165.trans (congrArg some (by kernel_rfl))⟩
  f27 := ⟨Tryz.f166.name, by decide, Tryz.func166.trans (congrArg some (by kernel_rfl))⟩
  f28 := ⟨Tryz.f167.name, by decide, Tryz.func167.trans (congrArg some (by kernel_rfl))⟩
  f29 := ⟨Tryz.f168.name, by decide, Tryz.func168.trans (congrArg some (by kernel_rfl))⟩
  f31 := Tryz.func173.trans (congrArg some (by kernel_rfl))
  f32 := Tryz.func174.trans (congrArg some (by kernel_rfl))
  f36 := ⟨Tryz.f172.name, by decide, Tryz.func172.trans (congrArg some (by kernel_rfl))⟩
  f37 := ⟨Tryz.f175.name, by decide, Tryz.func175.trans (congrArg some (by kernel_rfl))⟩
  f38 := ⟨Tryz.f176.name, by decide, Tryz.func176.trans (congrArg some (by kernel_rfl))⟩
  f39 := ⟨Tryz.f177.name, by decide, Tryz.func177.trans (congrArg some (by kernel_rfl))⟩
  f41 := ⟨Tryz.f180.name, by decide, Tryz.func180.trans (congrArg some (by kernel_rfl))⟩
  t0 := Tryz.underlying0
  a0 := Tryz.isAgg0
  z0 := Tryz.sizeOf0
  v0 := Tryz.zeroValue0
  t3 := Tryz.underlying3
  a3 := Tryz.isAgg3
  z3 := Tryz.sizeOf3
  v3 := Tryz.zeroValue3
  t4 := Tryz.underlying4
  a4 := Tryz.isAgg4
  z4 := Tryz.sizeOf4
  v4 := Tryz.zeroValue4
  t5 := Tryz.underlying5
  a5 := Tryz.isAgg5
  z5 := Tryz.sizeOf5
  v5 := Tryz.zeroValue5
  t9 := Tryz.underlying9
  a9 := Tryz.isAgg9
  z9 := Tryz.sizeOf9
  v9 := Tryz.zeroValue9
  t26 := Tryz.underlying54
  a26 := Tryz.isAgg54
  z26 := Tryz.sizeOf54
  v26 := Tryz.zeroValue54
  t27 := Tryz.underlying54
  a27 := Tryz.isAgg54
  z27 := Tryz.sizeOf54
  v27 := Tryz.zeroValue54
  t29 := Tryz.underlying9
  a29 := Tryz.isAgg9
  z29 := Tryz.sizeOf9
  v29 := Tryz.zeroValue9
  t32 := Tryz.underlying212
  a32 := Tryz.isAgg212
  z32 := Tryz.sizeOf212
  v32 := Tryz.zeroValue212
  t35 := Tryz.underlying235
  a35 := Tryz.isAgg235
  z35 := Tryz.sizeOf235
  v35 := Tryz.zeroValue235
  t36 := Tryz.underlying236
  a36 := Tryz.isAgg236
  z36 := Tryz.sizeOf236
  v36 := Tryz.zeroValue236
  t41 := Tryz.underlying140
  a41 := Tryz.isAgg140
  z41 := Tryz.sizeOf140
  v41 := Tryz.zeroValue140
  t44 := Tryz.underlying101
  a44 := Tryz.isAgg101
  z44 := Tryz.sizeOf101
  v44 := Tryz.zeroValue101
  t46 := Tryz.underlying244
  a46 := Tryz.isAgg244
  z46 := Tryz.sizeOf244
  v46 := Tryz.zeroValue244
  t53 := Tryz.underlying245
  a53 := Tryz.isAgg245
  z53 := Tryz.sizeOf245
  v53 := Tryz.zeroValue245
  t57 := Tryz.underlying249
  a57 := Tryz.isAgg249
  z57 := Tryz.sizeOf249
  v57 := Tryz.zeroValue249
  t63 := Tryz.underlying253
  a63 := Tryz.isAgg253
  z63 := Tryz.sizeOf253
  v63 := Tryz.zeroValue253
  t64 := Tryz.underlying254
  a64 := Tryz.isAgg254
  z64 := Tryz.sizeOf254
  v64 := Tryz.zeroValue254 }

/-- slices.Sort's two contracts at this dump, at the fence that asks nothing. -/
theorem sortsL (m : Nat) : AnyZ.SortsIn Tryz.prog sortedL_ren Fence.wide m :=
  ⟨fun blk off cap ss W hH hblk hsz => callsIn_wide.2 (AnyM.slices_Sort_string sortL blk off cap ss W hH hblk hsz),
   fun p cap W => callsIn_wide.2 (AnyM.slices_Sort_string_none sortL p cap W)⟩
theorem keysL_any (mb : Option Nat) (W : World) : Calls Tryz.prog 101 #[.map mb] W fun e w' => e = .returned (.func (.func 135) #[] #[.pointer (some ⟨W.heap.size, 0, none⟩)]) ∧ w' = W.alloc (.cells #[.map mb] 99) :=
  (callsIn_wide (n := 5)).1 (AnyZ.keys_in keysL Fence.wide 5 trivial rfl mb W)
set_option maxHeartbeats 1000000 in
theorem sortedL_any {H : Type} (b nn : Nat) (D0 : DataW H) (R : Value → Option (DataW H × List MemPlace)) (w : World) (hown : w.ownsMap Tryz.prog 9 R b nn D0) (hmax : Maps.size D0 ≤ maxLen) (hbytes : Maps.size D0 * 16 ≤ 140737488355328) :
    Calls Tryz.prog 100 #[.func (.func 135) #[] #[.pointer (some ⟨w.heap.size, 0, none⟩)]] (w.alloc (.cells #[.map (some b)] 99)) fun e w' => ∃ (v : Value) (ss : List (List UInt8)), e = .returned v ∧ ss.Perm (strKeys D0) ∧
      w'.ownsRow (w.alloc (.cells #[.map (some b)] 99)).heap.size 9 1 v ss.length ((ss.mergeSort (fun x y => decide (x ≤ y))).map encStr) ∧ (v = .slice none 0 0 ↔ ss = []) ∧ Below (w.alloc (.cells #[.map (some b)] 99)).heap.size (w.alloc (.cells #[.map (some b)] 99)) w' := by
  have hbl := hown.lt
  have hseq : SeqGives Fence.wide 2 Tryz.prog 135 #[.pointer (some ⟨w.heap.size, 0, none⟩)] encStr (fun ss => ss.Perm (strKeys D0)) (Maps.size D0) (w.alloc (.cells #[.map (some b)] 99)) :=
    AnyZ.keys_gives (ρ := keysL_ren) { keysL with } Fence.wide _ trivial rfl (by omega) w.heap.size b nn D0 _ (by simp) (by simp) (by
      obtain ⟨es, clock, hb, Ft, hs, hD⟩ := hown
      exact ⟨es, clock, (Below.heap_alloc _ _ b hbl).trans hb, Ft, hs, hD⟩)
  exact (callsIn_wide (n := 5)).1 (AnyZ.sorted_in sortedL Fence.wide 5 trivial trivial trivial trivial rfl (by omega) (sortsL _) (enters_of Tryz.func134 (by kernel_rfl) rfl) 135 #[.pointer (some ⟨w.heap.size, 0, none⟩)] trivial (enters_of Tryz.func135 (by kernel_rfl) rfl) _ _ hmax hbytes _ hseq)

/-- names, in order -/
def sortN (names : List ByteArray) : List ByteArray := ((names.map (fun s => s.data.toList)).mergeSort (fun x y => decide (x ≤ y))).map mkB
theorem sortN_perm (names : List ByteArray) : (sortN names).Perm names := by
  unfold sortN
  refine ((List.mergeSort_perm _ _).map _).trans ?_
  rw [List.map_map]
  have : (mkB ∘ fun s : ByteArray => s.data.toList) = id := funext fun s => mkB_data s
  rw [this, List.map_id]
theorem sortN_eq {a b : List ByteArray} (h : a.Perm b) : sortN a = sortN b := by
  unfold sortN
  rw [show (a.map fun s => s.data.toList).mergeSort (fun x y => decide (x ≤ y)) = (b.map fun s => s.data.toList).mergeSort (fun x y => decide (x ≤ y)) from mergeSort_of_perm (h.map _)]
theorem names_perm {w : World} {mb : Nat} {names : List ByteArray} {n : Nat} {D : DataW Unit} (hown : w.ownsMap Tryz.prog 9 ptrElem mb n D) (hhas : ∀ s, Maps.has D (keyL s) = (idx s names).isSome) (hnd : names.Nodup) : (names.map (fun s => s.data.toList)).Perm (strKeys D) := by
  have hc : Collected D (fun _ => false) (names.map (fun s => s.data.toList)) := by
    refine ⟨?_, fun x => ?_⟩
    · refine List.pairwise_map.2 (hnd.imp fun {a b} hne e => hne ?_)
      rw [← mkB_data a, ← mkB_data b, e]
    · have h1 := hhas (mkB x)
      rw [show keyL (mkB x) = .string x by simp [keyL, mkB]] at h1
      rw [h1]
      simp only [and_true]
      constructor
      · intro hx
        obtain ⟨s, hs, rfl⟩ := List.mem_map.1 hx
        rw [mkB_data]
        cases hi : idx s names with
        | none => exact absurd hs (idx_none.1 hi)
        | some k => rfl
      · intro hx
        cases hi : idx (mkB x) names with
        | none => rw [hi] at hx; cases hx
        | some k => exact List.mem_map.2 ⟨mkB x, List.mem_of_getElem? (idx_some hi), mkB_list x⟩
  exact hc.perm hown law9 Tryz.underlying9 (fun _ => rfl)
theorem sortedN_any (mb : Nat) (names : List ByteArray) (f : Nat → Nat) (t : Tag) (w : World) (T : Nat → Tag) (h : NM w T t mb names f) (hnd : names.Nodup) (h6 : names.length ≤ 6) :
    Calls Tryz.prog 100 #[.func (.func 135) #[] #[.pointer (some ⟨w.heap.size, 0, none⟩)]] (w.alloc (.cells #[.map (some mb)] 99)) fun e w' => ∃ v T', e = .returned v ∧ Step (fun _ => False) w T w' T' ∧ Row w' T' .free 9 1 v names.length ((sortN names).map .string) := by
  obtain ⟨hT, n, D, hown, hsize, hhas, hat⟩ := h
  refine (sortedL_any mb n D _ w hown (by rw [hsize]; unfold maxLen; omega) (by rw [hsize]; omega)).mono ?_
  rintro e w' ⟨v, ss, rfl, hp, hrow, _, hb⟩
  have hpn := names_perm hown hhas hnd
  have hss : ss.Perm (names.map (fun s => s.data.toList)) := hp.trans hpn.symm
  have hlen : ss.length = names.length := by rw [hss.length_eq, List.length_map]
  have hms : (ss.mergeSort (fun x y => decide (x ≤ y))).map encStr = (sortN names).map Value.string := by
    unfold sortN
    rw [show ss.mergeSort (fun x y => decide (x ≤ y)) = (names.map fun s => s.data.toList).mergeSort (fun x y => decide (x ≤ y)) from mergeSort_of_perm hss, List.map_map]
    rfl
  rw [hms, hlen] at hrow
  have hbw : Below w.heap.size w w' := ((Below.refl _ w).alloc (Nat.le_refl _) _).trans (hb.mono (by simp))
  refine ⟨v, fun k => if k < w.heap.size then T k else .free, rfl, ⟨hbw.os, hbw.tape, hbw.output, hbw.size, fun k hk => if_pos hk, fun k hk _ => hbw.block k hk⟩, ownsRow_base_a hrow (Nat.zero_le _), fun g hg => ?_⟩
  have h1 := (hrow.lt g hg).1
  exact if_neg (by simp at h1; omega)

end Go.Proofs.YtockkceclkcgbaaGreatDoor

/- A snapshot, read: load; so Open of any text is known. -/
import Derived.Test.YtockkceclkcgbaaGreatDoorA37
import Derived.Test.YtockkceclkcgbaaGreatDoorA09
import Derived.Laws.BytesArg
namespace Go.Proofs.YtockkceclkcgbaaGreatDoor
open Go.RowKit Go.Maps

attribute [local go_sem] over_cell

theorem ckeep_fine (i b : Nat) (c : Conf) (co : Core) (vL : Value) (ls : Nat) (lg : Bs) (s : ByteArray) (w : World) (T : Nat → Tag) (h : CM w T i b c co vL ls lg) :
    Calls Tryz.prog 41 #[.pointer (some ⟨b, 0, none⟩), .string s] w fun e w' => ∃ v T', e = .returned (.tuple #[v, .int .i64 (co.keepE c s)]) ∧ Step (fun t => t = .q i 0 0 ∨ t = .q i 1 0) w T w' T' ∧ CM w' T' i b c (bif decide (co.keepE c s = 0) then co.keep s else co) vL ls lg := by
  obtain ⟨h1, h2, vB, mb, f, ps, hB, hS, hN, hG, hL⟩ := h
  have hfl := h2.fl
  have hst := h2.stop
  have hsp : co.stop = co.floor + co.bodies.length := rfl
  obtain ⟨n, hn⟩ : ∃ n : Nat, co.stop = n := ⟨co.stop.toNat, by omega⟩
  have eE : keepX c.k n co.bodies.length s.size = co.keepE c s := by
    unfold keepX Core.keepE
    rw [hn, show decide (400 ≤ n) = decide ((400 : Int) ≤ n) from decide_eq_decide.2 (by omega)]
  have hk := keep_any i b _ _ _ _ vB _ _ _ c.k co.floor n co.bodies s w T hB hS hfl (by omega) (by omega)
  rw [eE] at hk
  refine hk.mono ?_
  rintro e w' ⟨rfl, T', vB', s1, hB1, hS1⟩
  have hq : ∀ r k, 2 ≤ r → ¬ (Tag.q i r k = .q i 0 0 ∨ Tag.q i r k = .q i 1 0) := fun r k hr => by simp; omega
  refine ⟨_, T', rfl, s1, ?_⟩
  cases hd : decide (co.keepE c s = 0)
  · rw [hd] at hS1
    exact ⟨h1, h2, vB', mb, f, ps, hB1, hS1, hN.step s1 (hq _ _ (by decide)), fun k p hp => ⟨(hG k p hp).1.step s1 (fun r hr => hq _ _ (by omega)), (hG k p hp).2⟩, hL.step s1 (by simp)⟩
  · rw [hd] at hS1
    exact ⟨h1, cok_keep h2 (by simpa using hd), vB', mb, f, ps, hB1, hS1, hN.step s1 (hq _ _ (by decide)), fun k p hp => ⟨(hG k p hp).1.step s1 (fun r hr => hq _ _ (by omega)), (hG k p hp).2⟩, hL.step s1 (by simp)⟩

theorem loadBodies_zero (c : Conf) (q : Core) (r : Rd) : loadBodies c 0 q r = some (q, r) := rfl
theorem loadGroups_zero (c : Conf) (q : Core) (r : Rd) : loadGroups c 0 q r = some (q, r) := rfl
theorem loadGroups_none {c : Conf} {n : Nat} {q : Core} {r : Rd} (h : loadGroup c q r = none) : loadGroups c (n + 1) q r = none := by simp [loadGroups, h]
theorem loadGroups_some {c : Conf} {n : Nat} {q q' : Core} {r r' : Rd} (h : loadGroup c q r = some (q', r')) : loadGroups c (n + 1) q r = loadGroups c n q' r' := by simp [loadGroups, h]
/-- what follows the bodies, and the groups -/
def endL (x : Option (Core × Rd)) : Option Core := match x with
  | none => none
  | some (q', r2) => bif r2.ended then some q' else none
def grpL (c : Conf) (x : Option (Core × Rd)) : Option Core := match x with
  | none => none
  | some (q, r1) => endL (loadGroups c (r1.num 2).1 q (r1.num 2).2)
theorem loadC_words (c : Conf) (d : Bs) : loadC c d = bif decide ((400 : Int) < ((Rd.mk d false).num 2).1) || !decide ((((Rd.mk d false).num 2).1 : Int) % c.s = 0) then none else
    grpL c (loadBodies c (((Rd.mk d false).num 2).2.num 2).1 ⟨((Rd.mk d false).num 2).1, [], []⟩ (((Rd.mk d false).num 2).2.num 2).2) := by
  unfold loadC grpL endL
  rfl

set_option maxRecDepth 100000 in
set_option maxHeartbeats 4000000 in
theorem load_any (i b : Nat) (c : Conf) : LoadOk i b c := by
  intro d vL ls w T h hd
  obtain ⟨R, hRR⟩ : ∃ R, Hid (loadC c d = R) := ⟨_, hide rfl⟩
  rw [hRR.out]
  replace hRR : Hid (R = _) := hide (hRR.out.symm.trans (loadC_words c d))
  have hgood := h.good
  have hcok := h.ok
  have hcs := (good_all hgood).2.2.1
  have s1 := step_new w T (.cells #[.string (mkB d), .bool false] 161) (rT i) (fun _ => False)
  have hO := blk_new w T #[.string (mkB d), .bool false] 161 (rT i)
  have hRd : RdB (w.alloc (.cells #[.string (mkB d), .bool false] 161)) (retag T w.heap.size (rT i)) (rT i) w.heap.size 161 #[.bool false, .bool false] ⟨d, false⟩ := ⟨hO, (by decide : 2 ≤ 2), by show d.length ≤ _; omega⟩
  have h1 := h.step s1 (fun _ _ _ h => h)
  have lb1 : b < (w.alloc (.cells #[.string (mkB d), .bool false] 161)).heap.size := by obtain ⟨_, _, _, _, _, _, hB, _⟩ := h1; exact hB.lt
  clear h hO
  go_enter Tryz.func128, Tryz.ntmps128
  go_wp2_with fail
  generalize hT1 : retag T w.heap.size (rT i) = T1 at *
  generalize hw1 : w.alloc (.cells #[.string (mkB d), .bool false] 161) = w1 at *
  generalize hrb : w.heap.size = rb at hRd ⊢
  clear hT1 hw1 hrb
  generalize (#[.bool false, .bool false] : Array Value) = cs at hRd
  have hnu := num_any (rT i) rb _ cs ⟨d, false⟩ w1 T1 hRd
  have hfl := decN_small ⟨d, false⟩ 2
  refine hnu.mono ?_
  clear hnu
  rintro e2 w2 ⟨rfl, s2, hR2⟩
  have h2 := h1.step s2 (fun r k hk hh => by simp at hh; omega)
  have s02 : Step (XT i) w T w2 T1 := (s1.mono (fun _ h => h.elim)).trans (s2.mono (fun t h => by subst h; exact ⟨rfl, rfl⟩))
  clear h1 hRd s1 s2 lb1
  generalize (Rd.mk d false).num 2 = x2 at *
  obtain ⟨fl, r2⟩ := x2
  simp only at hfl hR2 hRR ⊢
  obtain ⟨_, _, vB, mb, f, ps, hB, hS, hN, hG, hL⟩ := h2
  have lb2 := hB.lt
  have z5 := hB.frozen 5
  have c5 := hB.cell (j := 5) (v := .int .i64 (Core.zero).floor) rfl
  have hB3 := hB.set 5 (.int .i64 fl)
  have s3 : Step (fun t => t = .q i 0 0) w2 T1 (w2.setCell ⟨b, 5, none⟩ (.int .i64 fl)) T1 := step_setCell _ _ _ _ _ hB.1
  have hS3 := hS.step s3 (by simp)
  have hN3 := hN.step s3 (by simp)
  have hL3 := hL.step s3 (by simp)
  have hR3 := hR2.step s3 (by simp)
  have s03 := s02.trans (s3.mono (fun t h => by subst h; exact ⟨rfl, rfl⟩))
  clear hB hS hN hG hL hR2 s02 s3
  go_wp2_with fail
  clear c5 z5 lb2
  generalize w2.setCell ⟨b, 5, none⟩ (.int .i64 (fl : Int)) = w3 at *
  replace hB3 : Blk w3 T1 (.q i 0 0) b #[.int .i64 c.l, .int .i64 c.d, .int .i64 c.s, .int .i64 c.k, .int .i64 0, .int .i64 fl, vB, .map (some mb), vL, .int .u32 ls] 105 := hB3
  have c2 := hB3.cell (j := 2) (v := .int .i64 c.s) rfl
  have c5 := hB3.cell (j := 5) (v := .int .i64 fl) rfl
  have lb3 := hB3.lt
  have hrem : (fl : Int).tmod c.s = (fl : Int) % c.s := Int.tmod_eq_emod_of_nonneg (by omega)
  have hcs1 : ¬ c.s = 0 := by omega
  by_cases h4 : (400 : Int) < fl
  · have er : Hid (R = none) := hide (by rw [hRR.out, decide_eq_true h4]; rfl)
    have hd4 : decide ((400 : Int) < fl) = true := decide_eq_true h4
    go_wp2_with fail
    refine wp_region_over (by kernel_rfl) (by kernel_rfl) ?_
    repeat (go_big_quiet_step (fail))
    refine wpQuiet_nil ?_
    rintro _ ⟨x4, rfl⟩
    have g4 := step_below (XT i) T1 (over_below w3 x4)
    go_wp2
    go_ret
    exact ⟨T1, s03.trans g4, by rw [er.out]; rfl⟩
  have hd4 : decide ((400 : Int) < fl) = false := decide_eq_false h4
  by_cases hm : (fl : Int).tmod c.s = 0
  case neg =>
    have hm2 : ¬ (fl : Int) % c.s = 0 := by rw [← hrem]; exact hm
    have er : Hid (R = none) := hide (by rw [hRR.out, hd4, decide_eq_false hm2]; rfl)
    have hm3 : ((fl : Int).tmod c.s == 0) = false := by simpa using hm
    have hm4 : ((fl : Int).tmod c.s != 0) = true := by simpa using hm
    go_wp2_with fail
    refine wp_region_over (by kernel_rfl) (by kernel_rfl) ?_
    repeat (go_big_quiet_step (fail))
    refine wpQuiet_nil ?_
    rintro _ ⟨x4, rfl⟩
    have g4 := step_below (XT i) T1 (over_below w3 x4)
    go_wp2
    go_ret
    exact ⟨T1, s03.trans g4, by rw [er.out]; rfl⟩
  have hm2 : (fl : Int) % c.s = 0 := by rw [← hrem]; exact hm
  replace hRR : Hid (R = grpL c (loadBodies c (r2.num 2).1 ⟨fl, [], []⟩ (r2.num 2).2)) := hide (by rw [hRR.out, hd4, decide_eq_true hm2]; rfl)
  have hm3 : ((fl : Int).tmod c.s == 0) = true := by simpa using hm
  have hm4 : ((fl : Int).tmod c.s != 0) = false := by simpa using hm
  have hck := (good_all hgood).2.2.2
  have C3 : CM w3 T1 i b c ⟨fl, [], []⟩ vL ls [] := ⟨hgood, ⟨hcok.d, hcok.s, hcok.k, by show (0 : Int) ≤ fl; omega, hm2, by show (fl : Int) + 0 ≤ 400; omega, by show (0 : Int) ≤ c.k; omega, fun s hs => by simp at hs, by simp, by simp [Core.names], fun s hs => by simp [Core.names] at hs, fun p hp => by simp at hp⟩, vB, mb, f, ps, hB3, hS3, hN3, fun k p hp => by simp at hp, hL3⟩
  clear hB3 hS3 hN3 hL3 hrem hm2 hck
  go_wp2_with fail
  refine wp_region_over (by kernel_rfl) (by kernel_rfl) ?_
  repeat (go_big_quiet_step (fail))
  refine wpQuiet_nil ?_
  rintro _ ⟨x4, rfl⟩
  have g4 := step_below (fun _ => False) T1 (over_below w3 x4)
  have C4 := C3.step g4 (fun _ _ _ h => h)
  have hR4 := hR3.step g4 (fun h => h)
  have s04 := s03.trans (g4.mono (fun _ h => h.elim))
  clear C3 hR3 s03 c2 c5 lb3 g4
  generalize over w3 x4 = w4 at *
  have hnu := num_any (rT i) rb _ cs r2 w4 T1 hR4
  have hn5 := decN_small r2 2
  go_wp2_with fail
  refine hnu.mono ?_
  clear hnu
  rintro e5 w5 ⟨rfl, s5, hR5⟩
  have C5 := C4.step s5 (fun r k hk hh => by simp at hh; omega)
  have s05 := s04.trans (s5.mono (fun t h => by subst h; exact ⟨rfl, rfl⟩))
  clear C4 hR4 s04 s5
  generalize (r2.num 2).2 = r5 at *
  generalize (r2.num 2).1 = n5 at *
  generalize hq5 : (⟨fl, [], []⟩ : Core) = q5 at *
  clear hq5
  go_wp2_with fail
  go_loopw [36] (fun v wr => ∃ (j : Nat) (T' : Nat → Tag) (q : Core) (rj : Rd), j ≤ n5 ∧ v = .int .i64 j ∧ Step (XT i) w T wr T' ∧ CM wr T' i b c q vL ls [] ∧ RdB wr T' (rT i) rb 161 cs rj ∧ Hid (R = grpL c (loadBodies c (n5 - j) q rj))) (fun v _ => n5 - (intOf v).toNat)
  case atStart => exact ⟨0, T1, q5, r5, Nat.zero_le _, rfl, s05, C5, hR5, hRR⟩
  case round =>
    obtain ⟨j, T6, q6, r6, hj, rfl, s6, C6, hR6, hRj⟩ := hrel
    clear C5 hR5 s05 hRR
    by_cases hjl : j < n5
    · have htx := text_any (rT i) rb _ cs r6 wr T6 hR6
      have hsub : n5 - j = (n5 - (j + 1)) + 1 := by omega
      rw [hsub] at hRj
      unfold loadBodies at hRj
      go_wp2_with fail
      refine htx.mono ?_
      clear htx
      rintro e7 w7 ⟨rfl, s7, hR7⟩
      have C7 := C6.step s7 (fun r k hk hh => by simp at hh; omega)
      have s07 := s6.trans (s7.mono (fun t h => by subst h; exact ⟨rfl, rfl⟩))
      have hkp := ckeep_fine i b c q6 vL ls [] (mkB r6.text.1) w7 T6 C7
      go_wp2_with fail
      refine hkp.mono ?_
      clear hkp
      rintro e8 w8 ⟨v8, T8, rfl, s8, C8⟩
      have s08 := s07.trans (s8.mono (fun t h => by rcases h with rfl | rfl <;> exact ⟨rfl, rfl⟩))
      cases hk : decide (q6.keepE c (mkB r6.text.1) = 0)
      · have hk2 : ¬ q6.keepE c (mkB r6.text.1) = 0 := of_decide_eq_false hk
        have er : Hid (R = none) := hide (by rw [hRj.out, hk]; rfl)
        clear C8 C7 C6 hR7 hR6 hRj
        go_wp2
        go_ret
        exact ⟨T8, s08, by rw [er.out]; rfl⟩
      · have hk2 : q6.keepE c (mkB r6.text.1) = 0 := of_decide_eq_true hk
        rw [hk] at C8
        have hRk : Hid (R = grpL c (loadBodies c (n5 - (j + 1)) (q6.keep (mkB r6.text.1)) r6.text.2)) := hide (by rw [hRj.out, hk]; rfl)
        have hR8 := hR7.step s8 (by simp)
        have P8 := hide (And.intro s08 (And.intro C8 (And.intro hR8 hRk)))
        clear s08 C8 hR8 hRk C7 C6 hR7 hR6 hRj s6 s7 s07 s8 hk
        go_wp2
        exact ⟨⟨j + 1, T8, _, _, by omega, by simp, P8.out.1, P8.out.2.1, P8.out.2.2.1, P8.out.2.2.2⟩, by simp [intOf]; omega⟩
    · have hz : n5 - j = 0 := by omega
      replace hRj : Hid (R = endL (loadGroups c (r6.num 2).1 q6 (r6.num 2).2)) := hide (by rw [hRj.out, hz]; rfl)
      have hnu := num_any (rT i) rb _ cs r6 wr T6 hR6
      have hn7 := decN_small r6 2
      clear hz
      go_wp2_with fail
      refine hnu.mono ?_
      clear hnu
      rintro e7 w7 ⟨rfl, s7, hR7⟩
      have C7 := C6.step s7 (fun r k hk hh => by simp at hh; omega)
      have s07 := s6.trans (s7.mono (fun t h => by subst h; exact ⟨rfl, rfl⟩))
      clear C6 hR6 s6 s7
      generalize (r6.num 2).2 = r7 at *
      generalize (r6.num 2).1 = n7 at *
      go_wp2_with fail
      go_loopw [50] (fun v wr => ∃ (j : Nat) (T' : Nat → Tag) (q : Core) (rj : Rd), j ≤ n7 ∧ v = .int .i64 j ∧ Step (XT i) w T wr T' ∧ CM wr T' i b c q vL ls [] ∧ RdB wr T' (rT i) rb 161 cs rj ∧ Hid (R = endL (loadGroups c (n7 - j) q rj))) (fun v _ => n7 - (intOf v).toNat)
      case atStart => exact ⟨0, T6, q6, r7, Nat.zero_le _, rfl, s07, C7, hR7, hRj⟩
      case round =>
        obtain ⟨j, T8, q8, r8, hj, rfl, s8, C8, hR8, hRj8⟩ := hrel
        clear C7 hR7 s07 hRj
        by_cases hjl : j < n7
        · have hlg := loadGroup_any i b rb c q8 vL ls [] r8 cs _ wr T8 C8 hR8
          have hsub : n7 - j = (n7 - (j + 1)) + 1 := by omega
          rw [hsub] at hRj8
          cases hgr : loadGroup c q8 r8 with
          | none =>
            rw [hgr] at hlg
            have er : Hid (R = none) := hide (by rw [hRj8.out, loadGroups_none hgr]; rfl)
            clear C8 hR8 hRj8
            go_wp2_with fail
            refine hlg.mono ?_
            clear hlg
            rintro e9 w9 ⟨T9, s9, rfl⟩
            have s09 := s8.trans s9
            go_wp2
            go_ret
            exact ⟨T9, s09, by rw [er.out]; rfl⟩
          | some x =>
            obtain ⟨q9, r9⟩ := x
            rw [hgr] at hlg
            have hR9 : Hid (R = endL (loadGroups c (n7 - (j + 1)) q9 r9)) := hide (by rw [hRj8.out, loadGroups_some hgr])
            clear C8 hR8 hRj8
            go_wp2_with fail
            refine hlg.mono ?_
            clear hlg
            rintro e9 w9 ⟨T9, s9, rfl, C9, hRd9⟩
            have s09 := s8.trans s9
            have P9 := hide (And.intro s09 (And.intro C9 (And.intro hRd9 hR9)))
            clear s09 C9 hRd9 hR9 s8 s9 hgr
            go_wp2
            exact ⟨⟨j + 1, T9, _, _, by omega, by simp, P9.out.1, P9.out.2.1, P9.out.2.2.1, P9.out.2.2.2⟩, by simp [intOf]; omega⟩
        · have hz : n7 - j = 0 := by omega
          have hRf : Hid (R = bif r8.ended then some q8 else none) := hide (by rw [hRj8.out, hz]; rfl)
          have hen := ended_any (rT i) rb _ cs r8 wr T8 hR8
          clear hRj8 hz
          go_wp2_with fail
          refine hen.mono ?_
          clear hen
          rintro e9 w9 ⟨rfl, rfl⟩
          go_wp2
          go_ret
          refine ⟨T8, s8, ?_⟩
          rw [hRf.out]
          cases r8.ended
          · rfl
          · exact ⟨rfl, C8⟩

end Go.Proofs.YtockkceclkcgbaaGreatDoor

/- Contracts of the small functions of package quaykeep: names, picks, a configuration out of numbers. -/
namespace Go.Proofs.YtockkceclkcgbaaGreatDoor
open Go.RowKit

theorem run_str1 (w : World) (n : Int) : (convert 100 9 (.slice (some ⟨w.heap.size, 0, none⟩) 1 1)).run Tryz.prog (w.alloc (.cells #[.int .u8 n] 5)) = .ok (.string (strOfNums [n])) (w.alloc (.cells #[.int .u8 n] 5)) := by
  refine run_convert_bytes_arg _ 100 5 (by kernel_rfl) (by kernel_rfl) w.heap.size 0 1 1 [n] rfl (fun i hi => ?_) 9 (by kernel_rfl)
  obtain rfl : i = 0 := by omega
  have h := heap_alloc_new w (.cells #[.int .u8 n] 5)
  unfold World.cell?
  simp only [h]
  rfl
theorem run_str2 (w : World) (n m : Int) : (convert 100 9 (.slice (some ⟨w.heap.size, 0, none⟩) 2 2)).run Tryz.prog (w.alloc (.cells #[.int .u8 n, .int .u8 m] 5)) = .ok (.string (strOfNums [n, m])) (w.alloc (.cells #[.int .u8 n, .int .u8 m] 5)) := by
  refine run_convert_bytes_arg _ 100 5 (by kernel_rfl) (by kernel_rfl) w.heap.size 0 2 2 [n, m] rfl (fun i hi => ?_) 9 (by kernel_rfl)
  obtain rfl | rfl : i = 0 ∨ i = 1 := by omega
  all_goals
    have h := heap_alloc_new w (.cells #[.int .u8 n, .int .u8 m] 5)
    unfold World.cell?
    simp only [h]
    rfl

/-- the name of the group of number n -/
def nameB (n : Nat) : ByteArray := ⟨#[103, UInt8.ofNat (97 + n)]⟩

set_option maxRecDepth 100000 in
set_option maxHeartbeats 1000000 in
theorem name_any (n : Nat) (hn : n < 6) (w : World) : Calls Tryz.prog 35 #[.int .i64 n] w fun e w' => e = .returned (.string (nameB n)) ∧ Below w.heap.size w w' := by
  have hcv := run_str1 w
  have h : n = 0 ∨ n = 1 ∨ n = 2 ∨ n = 3 ∨ n = 4 ∨ n = 5 := by omega
  rcases h with rfl | rfl | rfl | rfl | rfl | rfl
  all_goals
    go_enter Tryz.func35, Tryz.ntmps35
    go_wp2
    go_ret
    exact ⟨rfl, (Below.refl _ _).alloc (Nat.le_refl _) _⟩

set_option maxHeartbeats 1000000 in
theorem pickk_same (c n : Int) (w : World) (h0 : -9223372036854775808 ≤ c) (h1 : c ≤ 9223372036854775807) (hn : 1 ≤ n) (hn1 : n ≤ 9223372036854775807) :
    Calls Tryz.prog 33 #[.int .i64 c, .int .i64 n] w fun e w' => e = .returned (.int .i64 (pickQ c n)) ∧ w' = w := by
  by_cases hc : c < 0
  · go_enter Tryz.func33, Tryz.ntmps33
    go_wp2
    go_ret
    exact ⟨by simp [pickQ, hc], rfl⟩
  · go_enter Tryz.func33, Tryz.ntmps33
    go_wp2
    go_ret
    refine ⟨?_, rfl⟩
    rw [pickQ, if_neg (by omega), Int.tmod_eq_emod_of_nonneg hc]; rfl

end Go.Proofs.YtockkceclkcgbaaGreatDoor

/- The contracts that a queue must keep, with what its log comes to shown (F: what each call makes of it). -/
namespace Go.Proofs.YtockkceclkcgbaaGreatDoor
open Go.RowKit

/-- what each call makes of a log -/
structure GF (G : Type) where
  new : Conf → G
  enq : MQ → ByteArray → G → G
  grp : MQ → ByteArray → Int → G → G
  recv : MQ → ByteArray → Int → G → G
  ack : MQ → ByteArray → Int → Int → G → G
  ret : MQ → G → G

structure XL {G : Type} (X : World → (Nat → Tag) → Nat → Nat → MQ → G → Prop) (F : GF G) (B : Int) : Prop where
  ackNo : ∀ (m : MQ) (s : ByteArray) (off tr : Int) (gh : G), leasedE m s off tr ≠ 0 → F.ack m s off tr gh = gh
  step : ∀ {S : Tag → Prop} {w w' : World} {T T' : Nat → Tag} {i b : Nat} {m : MQ} {gh : G}, X w T i b m gh → Step S w T w' T' → (∀ t, XT i t → ¬ S t) → X w' T' i b m gh
  opn : ∀ (c : Conf) (i : Nat) (w : World) (T : Nat → Tag), Calls Tryz.prog 25 #[.agg c.cells, .string ⟨#[]⟩] w fun e w' => (goodC c = false ∧ e = .returned (.tuple #[.pointer none, .int .i64 1]) ∧ Below w.heap.size w w') ∨
      (goodC c = true ∧ ∃ b T', e = .returned (.tuple #[.pointer (some ⟨b, 0, none⟩), .int .i64 0]) ∧ Step (XT i) w T w' T' ∧ X w' T' i b ⟨c, [], 0, [], 0, 0⟩ (F.new c))
  enq : ∀ (i b : Nat) (m : MQ) (s : ByteArray) {gh : G} (w : World) (T : Nat → Tag), X w T i b m gh → m.Fit B → Calls Tryz.prog 14 #[.pointer (some ⟨b, 0, none⟩), .string s] w fun e w' =>
      e = .returned (.tuple #[.int .i64 (bif decide (menqE m s = 0) then (m.bodies.length : Int) else 0), .int .i64 (menqE m s)]) ∧ ∃ T', Step (XT i) w T w' T' ∧ X w' T' i b (menqM m s) (F.enq m s gh)
  grp : ∀ (i b : Nat) (m : MQ) (s : ByteArray) (fr : Int) {gh : G} (w : World) (T : Nat → Tag), X w T i b m gh → m.Fit B → Calls Tryz.prog 74 #[.pointer (some ⟨b, 0, none⟩), .string s, .int .i64 fr] w fun e w' =>
      e = .returned (.int .i64 (mgrpE m s fr)) ∧ ∃ T', Step (XT i) w T w' T' ∧ X w' T' i b (mgrpM m s fr) (F.grp m s fr gh)
  recv : ∀ (i b : Nat) (m : MQ) (s : ByteArray) (n : Int) (t : Tag) {gh : G} (w : World) (T : Nat → Tag), X w T i b m gh → m.Fit B → Calls Tryz.prog 30 #[.pointer (some ⟨b, 0, none⟩), .string s, .int .i64 n] w fun e w' =>
      ∃ ao cap, e = .returned (.tuple #[.slice ao (recvL m s n).length cap, .int .i64 (recvE m s n)]) ∧ ∃ T', Step (XT i) w T w' T' ∧ X w' T' i b (recvM m s n) (F.recv m s n gh) ∧ Row w' T' t 82 3 (.slice ao (recvL m s n).length cap) (recvL m s n).length (dlVals (recvL m s n))
  ack : ∀ (i b : Nat) (m : MQ) (s : ByteArray) (off tr : Int) {gh : G} (w : World) (T : Nat → Tag), X w T i b m gh → m.Fit B → Calls Tryz.prog 59 #[.pointer (some ⟨b, 0, none⟩), .string s, .int .i64 off, .int .i64 tr] w fun e w' =>
      e = .returned (.int .i64 (leasedE m s off tr)) ∧ ∃ T', Step (XT i) w T w' T' ∧ X w' T' i b (ackM m s off tr) (F.ack m s off tr gh)
  nack : ∀ (i b : Nat) (m : MQ) (s : ByteArray) (off tr d : Int) {gh : G} (w : World) (T : Nat → Tag), X w T i b m gh → m.Fit B → Calls Tryz.prog 108 #[.pointer (some ⟨b, 0, none⟩), .string s, .int .i64 off, .int .i64 tr, .int .i64 d] w fun e w' =>
      e = .returned (.int .i64 (rangedE m s off tr d 0)) ∧ ∃ T', Step (XT i) w T w' T' ∧ X w' T' i b (nackM m s off tr d) gh
  tick : ∀ (i b : Nat) (m : MQ) (d : Int) {gh : G} (w : World) (T : Nat → Tag), X w T i b m gh → m.Fit B → Calls Tryz.prog 55 #[.pointer (some ⟨b, 0, none⟩), .int .i64 d] w fun e w' =>
      e = .returned (.int .i64 (tickE d)) ∧ ∃ T', Step (XT i) w T w' T' ∧ X w' T' i b (tickM m d) gh
  done : ∀ (i b : Nat) (m : MQ) (s : ByteArray) (t : Tag) {gh : G} (w : World) (T : Nat → Tag), X w T i b m gh → m.Fit B → Calls Tryz.prog 28 #[.pointer (some ⟨b, 0, none⟩), .string s] w fun e w' =>
      ∃ ao cap, e = .returned (.tuple #[.slice ao (doneL m s).length cap, .int .i64 (doneE m s)]) ∧ ∃ T', Step (XT i) w T w' T' ∧ X w' T' i b m gh ∧ Row w' T' t 69 2 (.slice ao (doneL m s).length cap) (doneL m s).length (pairVals (doneL m s))
  dead : ∀ (i b : Nat) (m : MQ) (s : ByteArray) (t : Tag) {gh : G} (w : World) (T : Nat → Tag), X w T i b m gh → m.Fit B → Calls Tryz.prog 29 #[.pointer (some ⟨b, 0, none⟩), .string s] w fun e w' =>
      ∃ ao cap, e = .returned (.tuple #[.slice ao (deadL m s).length cap, .int .i64 (doneE m s)]) ∧ ∃ T', Step (XT i) w T w' T' ∧ X w' T' i b m gh ∧ Row w' T' t 82 3 (.slice ao (deadL m s).length cap) (deadL m s).length (dlVals (deadL m s))
  span : ∀ (i b : Nat) (m : MQ) {gh : G} (w : World) (T : Nat → Tag), X w T i b m gh → m.Fit B → Calls Tryz.prog 24 #[.pointer (some ⟨b, 0, none⟩)] w fun e w' =>
      e = .returned (.agg #[.int .i64 m.floor, .int .i64 m.bodies.length]) ∧ ∃ T', Step (XT i) w T w' T' ∧ X w' T' i b m gh
  ret : ∀ (i b : Nat) (m : MQ) {gh : G} (w : World) (T : Nat → Tag), X w T i b m gh → m.Fit B → Calls Tryz.prog 60 #[.pointer (some ⟨b, 0, none⟩)] w fun e w' =>
      e = .returned (.int .i64 (retainN m)) ∧ ∃ T', Step (XT i) w T w' T' ∧ X w' T' i b (retainM m) (F.ret m gh)

end Go.Proofs.YtockkceclkcgbaaGreatDoor

/- A run of package quaykeep in memory, and its tick. -/
namespace Go.Proofs.YtockkceclkcgbaaGreatDoor
open Go.RowKit

/-- what a run holds: its groups as RG: items are the cells of 'seen', dead the cells of 'last' -/
structure RV where
  c : Conf
  bodies : List Value
  floor : Int
  groups : List RG
  time : Int
  ok : Bool
  right : Bool
  kept : Bool

/-- the blocks of the run of number i -/
def RT (i : Nat) (t : Tag) : Prop := 20 ≤ t.c ∧ t.c ≤ 24 ∧ t.i = i
abbrev Tag.run (i : Nat) : Tag := ⟨20, i, 0, 0⟩
abbrev Tag.rbod (i : Nat) : Tag := ⟨21, i, 0, 0⟩
abbrev Tag.rgrp (i : Nat) : Tag := ⟨22, i, 0, 0⟩
abbrev Tag.rseen (i k : Nat) : Tag := ⟨23, i, k, 0⟩
abbrev Tag.rlast (i k : Nat) : Tag := ⟨24, i, k, 0⟩

def MemAt (w : World) (T : Nat → Tag) (i k : Nat) (g : RG) (n : Nat) (vi vd : Value) : Prop :=
  Row w T (.rseen i k) 67 4 vi n g.items ∧ Row w T (.rlast i k) 3 1 vd g.dead.length g.dead
theorem MemAt.step {S : Tag → Prop} {w w' : World} {T T' : Nat → Tag} {i k : Nat} {g : RG} {n : Nat} {vi vd : Value} (h : MemAt w T i k g n vi vd) (hs : Step S w T w' T') (h3 : ¬ S (.rseen i k)) (h4 : ¬ S (.rlast i k)) : MemAt w' T' i k g n vi vd :=
  ⟨h.1.step hs h3, h.2.step hs h4⟩

abbrev runCells (bx : Nat) (r : RV) (vB vG : Value) : Array Value := #[.pointer (some ⟨bx, 0, none⟩), .int .i64 r.c.l, .int .i64 r.c.d, .int .i64 r.c.s, .int .i64 r.c.k, vB, .int .i64 r.floor, vG, .int .i64 r.time, .bool r.ok, .bool r.right, .bool r.kept]

/-- The run of number i, in block b; its queue in block bx. -/
structure RunM (w : World) (T : Nat → Tag) (i b bx : Nat) (r : RV) : Prop where
  small : r.bodies.length ≤ 400
  few : r.groups.length ≤ 6
  mem : ∃ vB vG vi vd, Blk w T (.run i) b (runCells bx r vB vG) 57 ∧
    Row w T (.rbod i) 9 1 vB r.bodies.length r.bodies ∧ Row w T (.rgrp i) 63 4 vG r.groups.length (groupCells r.groups vi vd) ∧
    ∀ k g, r.groups[k]? = some g → MemAt w T i k g r.bodies.length (vi k) (vd k)

theorem RunM.step {S : Tag → Prop} {w w' : World} {T T' : Nat → Tag} {i b bx : Nat} {r : RV} (h : RunM w T i b bx r) (hs : Step S w T w' T') (hS : ∀ t, RT i t → ¬ S t) : RunM w' T' i b bx r := by
  obtain ⟨h1, h2, vB, vG, vi, vd, hB, hR, hG, hI⟩ := h
  have n : ∀ c k, 20 ≤ c → c ≤ 24 → ¬ S ⟨c, i, k, 0⟩ := fun c k a b => hS _ ⟨a, b, rfl⟩
  exact ⟨h1, h2, vB, vG, vi, vd, hB.step hs (n _ _ (by decide) (by decide)), hR.step hs (n _ _ (by decide) (by decide)), hG.step hs (n _ _ (by decide) (by decide)), fun k g hk => (hI k g hk).step hs (n _ _ (by decide) (by decide)) (n _ _ (by decide) (by decide))⟩

/-- the tags that a run's call may write: its queue's and its own -/
def UT (i : Nat) (t : Tag) : Prop := XT i t ∨ RT i t
theorem xt_rt {i j : Nat} {t : Tag} (h : RT i t) (h' : XT j t) : False := by have := h.1; have := h'.1; omega


theorem RunM.set {w : World} {T : Nat → Tag} {i b bx : Nat} {r r' : RV} (h : RunM w T i b bx r) (j : Nat) (v : Value) (hb : r'.bodies = r.bodies) (hg : r'.groups = r.groups) (hc : ∀ vB vG, (runCells bx r vB vG).setIfInBounds j v = runCells bx r' vB vG) :
    RunM (w.setCell ⟨b, j, none⟩ v) T i b bx r' ∧ Step (fun t => t = .run i) w T (w.setCell ⟨b, j, none⟩ v) T := by
  obtain ⟨h1, h2, vB, vG, vi, vd, hB, hR, hG, hI⟩ := h
  have hs : Step (fun t => t = .run i) w T (w.setCell ⟨b, j, none⟩ v) T := step_setCell w T b j v hB.1
  have hB' := hB.set j v
  rw [hc] at hB'
  refine ⟨⟨by rw [hb]; exact h1, by rw [hg]; exact h2, vB, vG, vi, vd, hB', ?_, ?_, ?_⟩, hs⟩
  · rw [hb]; exact hR.step hs (by simp)
  · rw [hg]; exact hG.step hs (by simp)
  · rw [hg, hb]
    exact fun k g hk => (hI k g hk).step hs (by simp) (by simp)
theorem RunM.setOk {w : World} {T : Nat → Tag} {i b bx : Nat} {r : RV} (h : RunM w T i b bx r) (v : Bool) : RunM (w.setCell ⟨b, 9, none⟩ (.bool v)) T i b bx { r with ok := v } ∧ Step (fun t => t = .run i) w T (w.setCell ⟨b, 9, none⟩ (.bool v)) T := h.set 9 _ rfl rfl (fun _ _ => rfl)
theorem RunM.setRight {w : World} {T : Nat → Tag} {i b bx : Nat} {r : RV} (h : RunM w T i b bx r) (v : Bool) : RunM (w.setCell ⟨b, 10, none⟩ (.bool v)) T i b bx { r with right := v } ∧ Step (fun t => t = .run i) w T (w.setCell ⟨b, 10, none⟩ (.bool v)) T := h.set 10 _ rfl rfl (fun _ _ => rfl)
theorem RunM.setKept {w : World} {T : Nat → Tag} {i b bx : Nat} {r : RV} (h : RunM w T i b bx r) (v : Bool) : RunM (w.setCell ⟨b, 11, none⟩ (.bool v)) T i b bx { r with kept := v } ∧ Step (fun t => t = .run i) w T (w.setCell ⟨b, 11, none⟩ (.bool v)) T := h.set 11 _ rfl rfl (fun _ _ => rfl)
theorem RunM.setTime {w : World} {T : Nat → Tag} {i b bx : Nat} {r : RV} (h : RunM w T i b bx r) (v : Int) : RunM (w.setCell ⟨b, 8, none⟩ (.int .i64 v)) T i b bx { r with time := v } ∧ Step (fun t => t = .run i) w T (w.setCell ⟨b, 8, none⟩ (.int .i64 v)) T := h.set 8 _ rfl rfl (fun _ _ => rfl)
theorem rt_run (i : Nat) {t : Tag} (h : t = .run i) : UT i t := by subst h; exact .inr ⟨by simp, by simp, rfl⟩
theorem xt_run {i j : Nat} : ∀ t, XT j t → ¬ t = .run i := by rintro t h rfl; exact absurd h.1 (by simp)

attribute [local go_sem] over_cell

set_option maxRecDepth 100000 in
set_option maxHeartbeats 4000000 in
theorem rtick_any {G : Type} {X : World → (Nat → Tag) → Nat → Nat → MQ → G → Prop} {F : GF G} {B Bm : Int} (hX : XL X F Bm) (hle : B ≤ Bm) (hlm : B ≤ 3999999999999940000) (i b bx : Nat) (m : MQ) (r : RV) (ms : Int) (w : World) (T : Nat → Tag) {gh : G} (hx : X w T i bx m gh) (hf : m.Fit B) (hr : RunM w T i b bx r) (hok : r.ok = true) (ht : r.time = m.time) (h0 : 0 ≤ ms) (h1 : ms ≤ 60000) :
    Calls Tryz.prog 20 #[.pointer (some ⟨b, 0, none⟩), .int .i64 ms] w fun e w' => e = .returned (.tuple #[]) ∧ ∃ T', Step (UT i) w T w' T' ∧ X w' T' i bx (tickM m ms) gh ∧ RunM w' T' i b bx { r with time := m.time + ms } ∧ (tickM m ms).Fit (B + 60000) := by
  have htm := hf.ok.time
  have hE : tickE ms = 0 := by simp [tickE, btw, h0, h1]
  have htB := hf.time
  have hnx : ∀ t, RT i t → ¬ XT i t := fun t a c => xt_rt a c
  obtain ⟨g1, g2, vB, vG, vi, vd, hB, hR, hG, hI⟩ := id hr
  have c0 := hB.cell (j := 0) rfl
  have lb := hB.lt
  simp only [List.getElem_toArray, List.getElem_cons_zero] at c0
  clear hB hR hG hI
  go_enter Tryz.func20, Tryz.ntmps20
  go_wp2_with fail
  refine (hX.tick i bx m ms _ T hx (hf.mono hle)).mono ?_
  rintro e w1 ⟨rfl, T1, hs1, hx1⟩
  have hr1 := hr.step hs1 hnx
  rw [hE]
  obtain ⟨_, _, vB, vG, vi, vd, hB, hR, hG, hI⟩ := id hr1
  have l1 := hB.lt
  have c8 := hB.cell (j := 8) rfl
  have c9 := hB.cell (j := 9) rfl
  have z8 := hB.frozen 8
  have z9 := hB.frozen 9
  simp only [List.getElem_toArray, List.getElem_cons_succ, List.getElem_cons_zero] at c8 c9
  rw [hok] at c9
  rw [ht] at c8
  clear c0 lb hr
  clear hB hR hG hI
  obtain ⟨hr2, hs2⟩ := hr1.setOk true
  obtain ⟨hr3, hs3⟩ := hr2.setTime (m.time + ms)
  go_wp2
  go_end0
  have hx2 := hX.step (hX.step hx1 hs2 xt_run) hs3 xt_run
  have e : ({ { r with ok := true } with time := m.time + ms } : RV) = { r with time := m.time + ms } := by rw [← hok]
  rw [e] at hr3
  exact ⟨rfl, T1, (hs1.mono (fun _ h => .inl h)).trans ((hs2.trans hs3).mono (fun _ h => rt_run i h)), hx2, hr3, fit_tick hf ms hlm⟩

end Go.Proofs.YtockkceclkcgbaaGreatDoor

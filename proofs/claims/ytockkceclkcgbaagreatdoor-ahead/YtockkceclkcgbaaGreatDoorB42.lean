/- A snapshot, read: load; so Open of any text is known. -/
import Derived.Test.YtockkceclkcgbaaGreatDoorB41
import Derived.Test.YtockkceclkcgbaaGreatDoorB19
namespace Go.Proofs.YtockkceclkcgbaaGreatDoor
open Go.RowKit Go.Maps

attribute [local go_sem] over_cell

theorem ckeep_fine (i b : Nat) (c : Conf) (co : Core) (vL : Value) (ls : Nat) (lg : Bs) (s : ByteArray) (w : World) (T : Nat → Tag) (h : CM w T i b c co vL ls lg) :
    Calls Tryz.prog 41 #[.pointer (some ⟨b, 0, none⟩), .string s] w fun e w' => ∃ v T', e = .returned (.tuple #[v, .int .i64 (co.keepE c s)]) ∧ Step (fun t => t = .q i 0 0 ∨ t = .q i 1 0) w T w' T' ∧ CM w' T' i b c (bif decide (co.keepE c s = 0) then co.keep s else co) vL ls lg := by
  obtain ⟨h1, h2, vB, mb, f, ps, hB, hS, hN, hG, hL⟩ := h
  have hfl := h2.fl
  have hst := h2.stop
  have hsp : co.stop = co.floor + co.bodies.length := rfl
  obtain ⟨n, hn⟩ : ∃ n : Nat, co.stop = n := ⟨co.stop.toNat, by omega⟩
  have eE : keepX c.k n co.bodies.length s.size = co.keepE c s := by
    unfold keepX Core.keepE
    rw [hn, show decide (400 ≤ n) = decide ((400 : Int) ≤ n) from decide_eq_decide.2 (by omega)]
  have hk := keep_any i b _ _ _ _ vB _ _ _ c.k co.floor n co.bodies s w T hB hS hfl (by omega) (by omega)
  rw [eE] at hk
  refine hk.mono ?_
  rintro e w' ⟨rfl, T', vB', s1, hB1, hS1⟩
  have hq : ∀ r k, 2 ≤ r → ¬ (Tag.q i r k = .q i 0 0 ∨ Tag.q i r k = .q i 1 0) := fun r k hr => by simp; omega
  refine ⟨_, T', rfl, s1, ?_⟩
  cases hd : decide (co.keepE c s = 0)
  · rw [hd] at hS1
    exact ⟨h1, h2, vB', mb, f, ps, hB1, hS1, hN.step s1 (hq _ _ (by decide)), fun k p hp => ⟨(hG k p hp).1.step s1 (fun r hr => hq _ _ (by omega)), (hG k p hp).2⟩, hL.step s1 (by simp)⟩
  · rw [hd] at hS1
    exact ⟨h1, cok_keep h2 (by simpa using hd), vB', mb, f, ps, hB1, hS1, hN.step s1 (hq _ _ (by decide)), fun k p hp => ⟨(hG k p hp).1.step s1 (fun r hr => hq _ _ (by omega)), (hG k p hp).2⟩, hL.step s1 (by simp)⟩

theorem loadBodies_zero (c : Conf) (q : Core) (r : Rd) : loadBodies c 0 q r = some (q, r) := rfl
theorem loadGroups_zero (c : Conf) (q : Core) (r : Rd) : loadGroups c 0 q r = some (q, r) := rfl
theorem loadGroups_none {c : Conf} {n : Nat} {q : Core} {r : Rd} (h : loadGroup c q r = none) : loadGroups c (n + 1) q r = none := by simp [loadGroups, h]
theorem loadGroups_some {c : Conf} {n : Nat} {q q' : Core} {r r' : Rd} (h : loadGroup c q r = some (q', r')) : loadGroups c (n + 1) q r = loadGroups c n q' r' := by simp [loadGroups, h]
/-- what follows the bodies, and the groups -/
def endL (x : Option (Core × Rd)) : Option Core := match x with
  | none => none
  | some (q', r2) => bif r2.ended then some q' else none
def grpL (c : Conf) (x : Option (Core × Rd)) : Option Core := match x with
  | none => none
  | some (q, r1) => endL (loadGroups c (r1.num 2).1 q (r1.num 2).2)
theorem loadC_words (c : Conf) (d : Bs) : loadC c d = bif decide ((400 : Int) < ((Rd.mk d false).num 2).1) || !decide ((((Rd.mk d false).num 2).1 : Int) % c.s = 0) then none else
    grpL c (loadBodies c (((Rd.mk d false).num 2).2.num 2).1 ⟨((Rd.mk d false).num 2).1, [], []⟩ (((Rd.mk d false).num 2).2.num 2).2) := by
  unfold loadC grpL endL
  rfl

set_option maxRecDepth 100000 in
set_option maxHeartbeats 4000000 in
theorem load_any (i b : Nat) (c : Conf) : LoadOk i b c := by
  intro d vL ls w T h hd
  obtain ⟨R, hRR⟩ : ∃ R, Hid (loadC c d = R) := ⟨_, hide rfl⟩
  rw [hRR.out]
  replace hRR : Hid (R = _) := hide (hRR.out.symm.trans (loadC_words c d))
  have hgood := h.good
  have hcok := h.ok
  have hcs := (good_all hgood).2.2.1
  have s1 := step_new w T (.cells #[.string (mkB d), .bool false] 161) (rT i) (fun _ => False)
  have hO := blk_new w T #[.string (mkB d), .bool false] 161 (rT i)
  have hRd : RdB (w.alloc (.cells #[.string (mkB d), .bool false] 161)) (retag T w.heap.size (rT i)) (rT i) w.heap.size 161 #[.bool false, .bool false] ⟨d, false⟩ := ⟨hO, (by decide : 2 ≤ 2), by show d.length ≤ _; omega⟩
  have h1 := h.step s1 (fun _ _ _ h => h)
  have lb1 : b < (w.alloc (.cells #[.string (mkB d), .bool false] 161)).heap.size := by obtain ⟨_, _, _, _, _, _, hB, _⟩ := h1; exact hB.lt
  clear h hO
  go_enter Tryz.func128, Tryz.ntmps128
  go_wp2_with fail
  generalize hT1 : retag T w.heap.size (rT i) = T1 at *
  generalize hw1 : w.alloc (.cells #[.string (mkB d), .bool false] 161) = w1 at *
  generalize hrb : w.heap.size = rb at hRd ⊢
  clear hT1 hw1 hrb
  generalize (#[.bool false, .bool false] : Array Value) = cs at hRd
  have hnu := num_any (rT i) rb _ cs ⟨d, false⟩ w1 T1 hRd
  have hfl := decN_small ⟨d, false⟩ 2
  refine hnu.mono ?_
  clear hnu
  rintro e2 w2 ⟨rfl, s2, hR2⟩
  have h2 := h1.step s2 (fun r k hk hh => by simp at hh; omega)
  have s02 : Step (XT i) w T w2 T1 := (s1.mono (fun _ h => h.elim)).trans (s2.mono (fun t h => by subst h; exact ⟨rfl, rfl⟩))
  clear h1 hRd s1 s2 lb1
  generalize (Rd.mk d false).num 2 = x2 at *
  obtain ⟨fl, r2⟩ := x2
  simp only at hfl hR2 hRR ⊢
  obtain ⟨_, _, vB, mb, f, ps, hB, hS, hN, hG, hL⟩ := h2
  have lb2 := hB.lt
  have z5 := hB.frozen 5
  have c5 := hB.cell (j := 5) (v := .int .i64 (Core.zero).floor) rfl
  have hB3 := hB.set 5 (.int .i64 fl)
  have s3 : Step (fun t => t = .q i 0 0) w2 T1 (w2.setCell ⟨b, 5, none⟩ (.int .i64 fl)) T1 := step_setCell _ _ _ _ _ hB.1
  have hS3 := hS.step s3 (by simp)
  have hN3 := hN.step s3 (by simp)
  have hL3 := hL.step s3 (by simp)
  have hR3 := hR2.step s3 (by simp)
  have s03 := s02.trans (s3.mono (fun t h => by subst h; exact ⟨rfl, rfl⟩))
  clear hB hS hN hG hL hR2 s02 s3
  go_wp2_with fail
  clear c5 z5 lb2
  generalize w2.setCell ⟨b, 5, none⟩ (.int .i64 (fl : Int)) = w3 at *
  replace hB3 : Blk w3 T1 (.q i 0 0) b #[.int .i64 c.l, .int .i64 c.d, .int .i64 c.s, .int .i64 c.k, .int .i64 0, .int .i64 fl, vB, .map (some mb), vL, .int .u32 ls] 105 := hB3
  have c2 := hB3.cell (j := 2) (v := .int .i64 c.s) rfl
  have c5 := hB3.cell (j := 5) (v := .int .i64 fl) rfl
  have lb3 := hB3.lt
  have hrem : (fl : Int).tmod c.s = (fl : Int) % c.s := Int.tmod_eq_emod_of_nonneg (by omega)
  have hcs1 : ¬ c.s = 0 := by omega
  by_cases h4 : (400 : Int) < fl
  · have er : Hid (R = none) := hide (by rw [hRR.out, decide_eq_true h4]; rfl)
    have hd4 : decide ((400 : Int) < fl) = true := decide_eq_true h4
    go_wp2_with fail
    refine wp_region_over (by kernel_rfl) (by kernel_rfl) ?_
    repeat (go_big_quiet_step (fail))
    refine wpQuiet_nil ?_
    rintro _ ⟨x4, rfl⟩
    have g4 := step_below (XT i) T1 (over_below w3 x4)
    go_wp2
    go_ret
    exact ⟨T1, s03.trans g4, by rw [er.out]; rfl⟩
  have hd4 : decide ((400 : Int) < fl) = false := decide_eq_false h4
  by_cases hm : (fl : Int).tmod c.s = 0
  case neg =>
    have hm2 : ¬ (fl : Int) % c.s = 0 := by rw [← hrem]; exact hm
    have er : Hid (R = none) := hide (by rw [hRR.out, hd4, decide_eq_false hm2]; rfl)
    have hm3 : ((fl : Int).tmod c.s == 0) = false := by simpa using hm
    have hm4 : ((fl : Int).tmod c.s != 0) = true := by simpa using hm
    go_wp2_with fail
    refine wp_region_over (by kernel_rfl) (by kernel_rfl) ?_
    repeat (go_big_quiet_step (fail))
    refine wpQuiet_nil ?_
    rintro _ ⟨x4, rfl⟩
    have g4 := step_below (XT i) T1 (over_below w3 x4)
    go_wp2
    go_ret
    exact ⟨T1, s03.trans g4, by rw [er.out]; rfl⟩
  have hm2 : (fl : Int) % c.s = 0 := by rw [← hrem]; exact hm
  replace hRR : Hid (R = grpL c (loadBodies c (r2.num 2).1 ⟨fl, [], []⟩ (r2.num 2).2)) := hide (by rw [hRR.out, hd4, decide_eq_true hm2]; rfl)
  have hm3 : ((fl : Int).tmod c.s == 0) = true := by simpa using hm
  have hm4 : ((fl : Int).tmod c.s != 0) = false := by simpa using hm
  have hck := (good_all hgood).2.2.2
  have C3 : CM w3 T1 i b c ⟨fl, [], []⟩ vL ls [] := ⟨hgood, ⟨hcok.d, hcok.s, hcok.k, by show (0 : Int) ≤ fl; omega, hm2, by show (fl : Int) + 0 ≤ 400; omega, by show (0 : Int) ≤ c.k; omega, fun s hs => by simp at hs, by simp, by simp [Core.names], fun s hs => by simp [Core.names] at hs, fun p hp => by simp at hp⟩, vB, mb, f, ps, hB3, hS3, hN3, fun k p hp => by simp at hp, hL3⟩
  clear hB3 hS3 hN3 hL3 hrem hm2 hck
  go_wp2_with fail
  refine wp_region_over (by kernel_rfl) (by kernel_rfl) ?_
  repeat (go_big_quiet_step (fail))
  refine wpQuiet_nil ?_
  rintro _ ⟨x4, rfl⟩
  have g4 := step_below (fun _ => False) T1 (over_below w3 x4)
  have C4 := C3.step g4 (fun _ _ _ h => h)
  have hR4 := hR3.step g4 (fun h => h)
  have s04 := s03.trans (g4.mono (fun _ h => h.elim))
  clear C3 hR3 s03 c2 c5 lb3 g4
  generalize over w3 x4 = w4 at *
  have hnu := num_any (rT i) rb _ cs r2 w4 T1 hR4
  have hn5 := decN_small r2 2
  go_wp2_with fail
  refine hnu.mono ?_
  clear hnu
  rintro e5 w5 ⟨rfl, s5, hR5⟩
  have C5 := C4.step s5 (fun r k hk hh => by simp at hh; omega)
  have s05 := s04.trans (s5.mono (fun t h => by subst h; exact ⟨rfl, rfl⟩))
  clear C4 hR4 s04 s5
  generalize (r2.num 2).2 = r5 at *
  generalize (r2.num 2).1 = n5 at *
  generalize hq5 : (⟨fl, [], []⟩ : Core) = q5 at *
  clear hq5
  go_wp2_with fail
  go_loopw [36] (fun v wr => ∃ (j : Nat) (T' : Nat → Tag) (q : Core) (rj : Rd), j ≤ n5 ∧ v = .int .i64 j ∧ Step (XT i) w T wr T' ∧ CM wr T' i b c q vL ls [] ∧ RdB wr T' (rT i) rb 161 cs rj ∧ Hid (R = grpL c (loadBodies c (n5 - j) q rj))) (fun v _ => n5 - (intOf v).toNat)
  case atStart => exact ⟨0, T1, q5, r5, Nat.zero_le _, rfl, s05, C5, hR5, hRR⟩
  case round =>
    obtain ⟨j, T6, q6, r6, hj, rfl, s6, C6, hR6, hRj⟩ := hrel
    clear C5 hR5 s05 hRR
    by_cases hjl : j < n5
    · have htx := text_any (rT i) rb _ cs r6 wr T6 hR6
      have hsub : n5 - j = (n5 - (j + 1)) + 1 := by omega
      rw [hsub] at hRj
      unfold loadBodies at hRj
      go_wp2_with fail
      refine htx.mono ?_
      clear htx
      rintro e7 w7 ⟨rfl, s7, hR7⟩
      have C7 := C6.step s7 (fun r k hk hh => by simp at hh; omega)
      have s07 := s6.trans (s7.mono (fun t h => by subst h; exact ⟨rfl, rfl⟩))
      have hkp := ckeep_fine i b c q6 vL ls [] (mkB r6.text.1) w7 T6 C7
      go_wp2_with fail
      refine hkp.mono ?_
      clear hkp
      rintro e8 w8 ⟨v8, T8, rfl, s8, C8⟩
      have s08 := s07.trans (s8.mono (fun t h => by rcases h with rfl | rfl <;> exact ⟨rfl, rfl⟩))
      cases hk : decide (q6.keepE c (mkB r6.text.1) = 0)
      · have hk2 : ¬ q6.keepE c (mkB r6.text.1) = 0 := of_decide_eq_false hk
        have er : Hid (R = none) := hide (by rw [hRj.out, hk]; rfl)
        clear C8 C7 C6 hR7 hR6 hRj
        go_wp2
        go_ret
        exact ⟨T8, s08, by rw [er.out]; rfl⟩
      · have hk2 : q6.keepE c (mkB r6.text.1) = 0 := of_decide_eq_true hk
        rw [hk] at C8
        have hRk : Hid (R = grpL c (loadBodies c (n5 - (j + 1)) (q6.keep (mkB r6.text.1)) r6.text.2)) := hide (by rw [hRj.out, hk]; rfl)
        have hR8 := hR7.step s8 (by simp)
        have P8 := hide (And.intro s08 (And.intro C8 (And.intro hR8 hRk)))
        clear s08 C8 hR8 hRk C7 C6 hR7 hR6 hRj s6 s7 s07 s8 hk
        go_wp2
        exact ⟨⟨j + 1, T8, _, _, by omega, by simp, P8.out.1, P8.out.2.1, P8.out.2.2.1, P8.out.2.2.2⟩, by simp [intOf]; omega⟩
    · have hz : n5 - j = 0 := by omega
      replace hRj : Hid (R = endL (loadGroups c (r6.num 2).1 q6 (r6.num 2).2)) := hide (by rw [hRj.out, hz]; rfl)
      have hnu := num_any (rT i) rb _ cs r6 wr T6 hR6
      have hn7 := decN_small r6 2
      clear hz
      go_wp2_with fail
      refine hnu.mono ?_
      clear hnu
      rintro e7 w7 ⟨rfl, s7, hR7⟩
      have C7 := C6.step s7 (fun r k hk hh => by simp at hh; omega)
      have s07 := s6.trans (s7.mono (fun t h => by subst h; exact ⟨rfl, rfl⟩))
      clear C6 hR6 s6 s7
      generalize (r6.num 2).2 = r7 at *
      generalize (r6.num 2).1 = n7 at *
      go_wp2_with fail
      go_loopw [50] (fun v wr => ∃ (j : Nat) (T' : Nat → Tag) (q : Core) (rj : Rd), j ≤ n7 ∧ v = .int .i64 j ∧ Step (XT i) w T wr T' ∧ CM wr T' i b c q vL ls [] ∧ RdB wr T' (rT i) rb 161 cs rj ∧ Hid (R = endL (loadGroups c (n7 - j) q rj))) (fun v _ => n7 - (intOf v).toNat)
      case atStart => exact ⟨0, T6, q6, r7, Nat.zero_le _, rfl, s07, C7, hR7, hRj⟩
      case round =>
        obtain ⟨j, T8, q8, r8, hj, rfl, s8, C8, hR8, hRj8⟩ := hrel
        clear C7 hR7 s07 hRj
        by_cases hjl : j < n7
        · have hlg := loadGroup_any i b rb c q8 vL ls [] r8 cs _ wr T8 C8 hR8
          have hsub : n7 - j = (n7 - (j + 1)) + 1 := by omega
          rw [hsub] at hRj8
          cases hgr : loadGroup c q8 r8 with
          | none =>
            rw [hgr] at hlg
            have er : Hid (R = none) := hide (by rw [hRj8.out, loadGroups_none hgr]; rfl)
            clear C8 hR8 hRj8
            go_wp2_with fail
            refine hlg.mono ?_
            clear hlg
            rintro e9 w9 ⟨T9, s9, rfl⟩
            have s09 := s8.trans s9
            go_wp2
            go_ret
            exact ⟨T9, s09, by rw [er.out]; rfl⟩
          | some x =>
            obtain ⟨q9, r9⟩ := x
            rw [hgr] at hlg
            have hR9 : Hid (R = endL (loadGroups c (n7 - (j + 1)) q9 r9)) := hide (by rw [hRj8.out, loadGroups_some hgr])
            clear C8 hR8 hRj8
            go_wp2_with fail
            refine hlg.mono ?_
            clear hlg
            rintro e9 w9 ⟨T9, s9, rfl, C9, hRd9⟩
            have s09 := s8.trans s9
            have P9 := hide (And.intro s09 (And.intro C9 (And.intro hRd9 hR9)))
            clear s09 C9 hRd9 hR9 s8 s9 hgr
            go_wp2
            exact ⟨⟨j + 1, T9, _, _, by omega, by simp, P9.out.1, P9.out.2.1, P9.out.2.2.1, P9.out.2.2.2⟩, by simp [intOf]; omega⟩
        · have hz : n7 - j = 0 := by omega
          have hRf : Hid (R = bif r8.ended then some q8 else none) := hide (by rw [hRj8.out, hz]; rfl)
          have hen := ended_any (rT i) rb _ cs r8 wr T8 hR8
          clear hRj8 hz
          go_wp2_with fail
          refine hen.mono ?_
          clear hen
          rintro e9 w9 ⟨rfl, rfl⟩
          go_wp2
          go_ret
          refine ⟨T8, s8, ?_⟩
          rw [hRf.out]
          cases r8.ended
          · rfl
          · exact ⟨rfl, C8⟩

end Go.Proofs.YtockkceclkcgbaaGreatDoor

/- A queue that Open made of a text is the document's queue of which the text speaks, in whatever order its groups lie. -/
namespace Go.Proofs.YtockkceclkcgbaaGreatDoor
open Go.RowKit Go.Maps

/-! blocks that get another tag -/
theorem Blk.move {w : World} {T T' : Nat → Tag} {t t' : Tag} {b : Nat} {cs : Array Value} {e : TypeId} (h : Blk w T t b cs e) (hf : ∀ g, T g = t → T' g = t') : Blk w T' t' b cs e := ⟨hf b h.1, h.2⟩
theorem Row.move {w : World} {T T' : Nat → Tag} {t t' : Tag} {e : TypeId} {size : Nat} {v : Value} {n : Nat} {xs : List Value} (h : Row w T t e size v n xs) (hf : ∀ g, T g = t → T' g = t') : Row w T' t' e size v n xs := ⟨h.1, fun g hg => hf g (h.2 g hg)⟩
theorem Sub.move {w : World} {T T' : Nat → Tag} {t t' : Tag} {v : Value} {xs : List Value} (h : Sub w T t v xs) (hf : ∀ g, T g = t → T' g = t') : Sub w T' t' v xs := by
  obtain ⟨ao, cap, h1, h2, h3⟩ := h
  refine ⟨ao, cap, h1, h2, h3.imp id ?_⟩
  rintro ⟨g, off, cur, e, hT, rest⟩
  exact ⟨g, off, cur, e, hf g hT, rest⟩
theorem TM.move {w : World} {T T' : Nat → Tag} {t t' : Tag} {b : Nat} {f : Int → Int} (h : TM w T t b f) (hf : ∀ g, T g = t → T' g = t') : TM w T' t' b f := ⟨hf b h.1, h.2⟩
theorem WM.move {w : World} {T T' : Nat → Tag} {t t' : Tag} {b : Nat} {f : Int → Option (Int × Bool)} (h : WM w T t b f) (hf : ∀ g, T g = t → T' g = t') : WM w T' t' b f := ⟨hf b h.1, h.2⟩
theorem GM.move {w : World} {T T' : Nat → Tag} {i i' k k' gb : Nat} {p : PG} (h : GM w T i k gb p) (hf : ∀ r g, 3 ≤ r → T g = .q i r k → T' g = .q i' r k') : GM w T' i' k' gb p := by
  obtain ⟨vD, vE, tb, wb, h1, h2, h3, h4, h5⟩ := h
  exact ⟨vD, vE, tb, wb, h1.move (fun g => hf 3 g (by decide)), h2.move (fun g => hf 4 g (by decide)), h3.move (fun g => hf 5 g (by decide)), h4.move (fun g => hf 6 g (by decide)), h5.move (fun g => hf 7 g (by decide))⟩

/-- the blocks of queue j become those of queue i, its groups in another order -/
def moveT (j i : Nat) (σ : Nat → Nat) (T : Nat → Tag) : Nat → Tag := fun k => if (T k).c = 5 ∧ (T k).i = j then ⟨5, i, (T k).r, if 3 ≤ (T k).r then σ (T k).k else (T k).k⟩ else T k
theorem move_low {j i : Nat} {σ : Nat → Nat} {T : Nat → Tag} {r k : Nat} (hr : r < 3) (g : Nat) (h : T g = .q j r k) : moveT j i σ T g = .q i r k := by
  unfold moveT
  rw [h]
  simp [show ¬ 3 ≤ r by omega]
theorem move_grp {j i : Nat} {σ : Nat → Nat} {T : Nat → Tag} {r k : Nat} (hr : 3 ≤ r) (g : Nat) (h : T g = .q j r k) : moveT j i σ T g = .q i r (σ k) := by
  unfold moveT
  rw [h]
  simp [hr]
theorem move_old {j i : Nat} {σ : Nat → Nat} {T : Nat → Tag} {g : Nat} (h : ¬ XT j (T g)) : moveT j i σ T g = T g := by
  unfold moveT
  exact if_neg h
/-- a number that no block's tag bears -/
theorem fresh_num (T : Nat → Tag) : ∀ n : Nat, ∃ m : Nat, ∀ k, k < n → (T k).i < m
  | 0 => ⟨0, fun k hk => absurd hk (by omega)⟩
  | n + 1 => by
    obtain ⟨m, hm⟩ := fresh_num T n
    refine ⟨max m ((T n).i + 1), fun k hk => ?_⟩
    by_cases h : k = n
    · subst h; omega
    · have := hm k (by omega); omega

theorem idx_of {s : ByteArray} {l : List ByteArray} {k : Nat} (hn : l.Nodup) (h : l[k]? = some s) : idx s l = some k := by
  cases hi : idx s l with
  | none => exact absurd (List.mem_of_getElem? h) (idx_none.1 hi)
  | some j =>
    have h2 := idx_some hi
    rw [(List.getElem?_inj (List.getElem?_eq_some_iff.1 h2).1 hn).1 (h2.trans h.symm)]
theorem idx_perm {l l' : List ByteArray} (h : l.Perm l') (s : ByteArray) : (idx s l).isSome = (idx s l').isSome := by
  rw [Bool.eq_iff_iff, Option.isSome_iff_ne_none, Option.isSome_iff_ne_none, Ne, Ne, idx_none, idx_none, h.mem_iff]
theorem NM.perm {w : World} {T : Nat → Tag} {t : Tag} {b : Nat} {names names' : List ByteArray} {f : Nat → Nat} (h : NM w T t b names f) (hp : names.Perm names') (f' : Nat → Nat) (hf : ∀ s k k', idx s names = some k → idx s names' = some k' → f' k' = f k) : NM w T t b names' f' := by
  obtain ⟨h1, n, D, h2, h3, h4, h5⟩ := h
  refine ⟨h1, n, D, h2, h3.trans hp.length_eq, fun s => (h4 s).trans (idx_perm hp s), fun s k' hk' z => ?_⟩
  cases hi : idx s names with
  | none =>
    have := idx_perm hp s
    rw [hi, hk'] at this
    cases this
  | some k => rw [h5 s k hi z, hf s k k' hi hk']
theorem NM.move {w : World} {T T' : Nat → Tag} {t t' : Tag} {b : Nat} {names : List ByteArray} {f : Nat → Nat} (h : NM w T t b names f) (hf : ∀ g, T g = t → T' g = t') : NM w T' t' b names f := ⟨hf b h.1, h.2⟩

/-! the document's queue that is opened anew -/
/-- what must hold of a queue that a text speaks of -/
structure Calm (q : MQ) : Prop where
  time : q.time = 0
  small : q.bodies.length ≤ 400
  few : q.groups.length ≤ 6
  nodup : q.names.Nodup
  short : ∀ s ∈ q.names, s.size ≤ 16
  inv : ∀ g ∈ q.groups, InvG q g
  rel : ∀ g ∈ q.groups, RelG q g (coreG q g).pg
  lsd : Lsd q

theorem co_x {w : World} {T : Nat → Tag} {j i b : Nat} {c : Conf} {co : Core} {vL : Value} {ls : Nat} {lg : Bs} {q : MQ} (h : CO w T j b c co vL ls lg) (hc : q.c = c) (hs : Same co (coreM q)) (hq : Calm q) :
    ∃ σ, XM w (moveT j i σ T) i b q vL (.int .u32 ls) lg := by
  obtain ⟨h1, h2, vB, mb, f, hB, hS, hN, hG, hL⟩ := h
  have hpn : co.names.Perm q.names := by rw [← coreM_names]; exact hs.names
  have hfl : co.floor = q.floor := hs.floor
  have hbo : co.bodies = q.bodies.drop q.floor.toNat := hs.bodies
  refine ⟨fun k => (idx (co.names.getD k ⟨#[]⟩) q.names).getD 0, hq.small, hq.few, hq.nodup, hq.short, hq.inv, vB, mb, fun k => f ((idx (q.names.getD k ⟨#[]⟩) co.names).getD 0), fun k => match q.groups[k]? with | some g => (coreG q g).pg | none => newP 0, ?_, ?_, ?_, fun k g hg => ?_, ?_⟩
  · rw [hc, hq.time, ← hfl]
    exact hB.move (move_low (by decide))
  · rw [← hbo]
    exact hS.move (move_low (by decide))
  · refine (hN.perm hpn _ (fun s k k' hk hk' => ?_)).move (move_low (by decide))
    have e1 : q.names.getD k' ⟨#[]⟩ = s := by rw [List.getD_eq_getElem?_getD, idx_some hk']; rfl
    simp only [e1, hk, Option.getD_some]
  · have hgm := List.mem_of_getElem? hg
    have hmem : (g.name, coreG q g) ∈ co.gs := hs.gs.mem_iff.2 (List.mem_map.2 ⟨g, hgm, rfl⟩)
    obtain ⟨k0, hk0⟩ := List.getElem?_of_mem hmem
    have hn0 : co.names[k0]? = some g.name := by simp [Core.names, hk0]
    have hnk : q.names[k]? = some g.name := by simp [MQ.names, hg]
    have i0 := idx_of h2.once hn0
    have i1 := idx_of hq.nodup hnk
    have e1 : q.names.getD k ⟨#[]⟩ = g.name := by rw [List.getD_eq_getElem?_getD, hnk]; rfl
    have e0 : co.names.getD k0 ⟨#[]⟩ = g.name := by rw [List.getD_eq_getElem?_getD, hn0]; rfl
    have hg0 := hG k0 _ hk0
    simp only [hg, e1, i0, Option.getD_some]
    refine ⟨hg0.move (fun r b' hr hb => ?_), hq.rel g hgm⟩
    have := move_grp (j := j) (i := i) (σ := fun k => (idx (co.names.getD k ⟨#[]⟩) q.names).getD 0) hr b' hb
    rw [this]
    simp only [e0, i1, Option.getD_some]
  · exact hL.move (move_low (by decide))

/-! a queue behind a crash -/
theorem wakeI_tries (l : List It) (n : Int) : triesOf (itemAt (l.map wakeI) n) = triesOf (itemAt l n) ∧ waitOf 0 (itemAt (l.map wakeI) n) = none ∧ doneB (l.map wakeI) n = doneB l n := by
  have e : itemAt (l.map wakeI) n = (itemAt l n).map wakeI := by
    unfold itemAt
    cases decide (0 ≤ n) <;> simp
  rw [doneB_at, doneB_at, e]
  cases itemAt l n with
  | none => exact ⟨rfl, rfl, rfl⟩
  | some x =>
    refine ⟨rfl, ?_, rfl⟩
    simp [waitOf, wakeI]
theorem wake_rel {m : MQ} {g : MG} {p : PG} {ch : Int} (h : RelG m g p) : RelG (wakeM m ch) (wakeG g) (calmP p) := by
  refine ⟨h.start, h.set, fun n => (h.done n).trans (wakeI_tries g.items n).2.2.symm, h.dead.trans (List.map_congr_left (fun n _ => ?_)), fun n => (h.tr n).trans (wakeI_tries g.items n).1.symm, fun n => (wakeI_tries g.items n).2.1.symm⟩
  unfold deadOf
  simp only [wakeM, wakeG, List.getD_eq_getElem?_getD, List.getElem?_map]
  cases g.items[n]? <;> rfl
theorem wake_inv {m : MQ} {g : MG} {ch : Int} (h : InvG m g) : InvG (wakeM m ch) (wakeG g) := by
  have key : ∀ x ∈ (wakeG g).items, ∃ y ∈ g.items, x = wakeI y := fun x hx => by
    obtain ⟨y, hy, rfl⟩ := List.mem_map.1 hx
    exact ⟨y, hy, rfl⟩
  refine ⟨fun x hx => ?_, fun x hx => ?_, fun x hx hlt => ?_, fun n hn => ?_⟩
  · obtain ⟨y, hy, rfl⟩ := key x hx; exact h.done y hy
  · obtain ⟨y, hy, rfl⟩ := key x hx; exact h.tries y hy
  · obtain ⟨y, hy, rfl⟩ := key x hx; exact absurd hlt (by simp [wakeM, wakeI])
  · rw [show (wakeG g).items = g.items.map wakeI from rfl, (wakeI_tries g.items n).2.2]; exact h.dead n hn
theorem wake_core {m : MQ} {ch : Int} (hr : Rels m) (hok : m.Ok) (hsm : m.bodies.length ≤ 400) : coreM (wakeM m ch) = coreM m ∧ ∀ g ∈ m.groups, coreG (wakeM m ch) (wakeG g) = coreG m g := by
  have key : ∀ g ∈ m.groups, coreG (wakeM m ch) (wakeG g) = coreG m g := fun g hg => by
    obtain ⟨hi, p, hp⟩ := hr g hg
    rw [← rel_core hp hi.done (small_items hok hsm hg), ← rel_core (wake_rel (ch := ch) hp) (wake_inv (ch := ch) hi).done (by show (g.items.map wakeI).length ≤ _; rw [List.length_map]; exact small_items hok hsm hg)]
    rfl
  refine ⟨coreM_same rfl rfl wakeM_glen (fun k g g' h1 h2 => ?_), key⟩
  rw [wakeM_group, h1] at h2
  cases h2
  exact ⟨rfl, key g (List.mem_of_getElem? h1)⟩
theorem calm_wake {w : World} {T : Nat → Tag} {i b : Nat} {m : MQ} {vL vS : Value} {lg : Bs} {ch : Int} (h : XM w T i b m vL vS lg) (hok : m.Ok) : Calm (wakeM m ch) := by
  have hr := h.rels
  have hc := (wake_core (ch := ch) hr hok h.small).2
  have hnm : (wakeM m ch).names = m.names := by simp [MQ.names, wakeM, wakeG, Function.comp_def]
  have key : ∀ g ∈ (wakeM m ch).groups, ∃ g0 ∈ m.groups, g = wakeG g0 := fun g hg => by
    obtain ⟨g0, h0, rfl⟩ := List.mem_map.1 hg
    exact ⟨g0, h0, rfl⟩
  refine ⟨rfl, h.small, by rw [wakeM_glen]; exact h.few, by rw [hnm]; exact h.nodup, by rw [hnm]; exact h.short, fun g hg => ?_, fun g hg => ?_, fun g hg x hx hlt => ?_⟩
  · obtain ⟨g0, h0, rfl⟩ := key g hg
    exact wake_inv (hr g0 h0).1
  · obtain ⟨g0, h0, rfl⟩ := key g hg
    obtain ⟨hi, p, hp⟩ := hr g0 h0
    rw [hc g0 h0, ← rel_core hp hi.done (small_items hok h.small h0)]
    exact wake_rel hp
  · obtain ⟨g0, h0, rfl⟩ := key g hg
    obtain ⟨y, hy, rfl⟩ := List.mem_map.1 hx
    exact absurd hlt (by simp [wakeM, wakeI])

/-- The text speaks of the queue q, of the configuration c. -/
structure Dec (c : Conf) (s : ByteArray) (q : MQ) : Prop where
  conf : q.c = c
  good : goodC c = true
  size : s.data.toList.length ≤ 1000000000000
  calm : Calm q
  told : ∃ co su lg, openT c s.data.toList = some (co, su, lg) ∧ Same co (coreM q) ∧ LogIs q lg su

theorem dec_log {w : World} {T : Nat → Tag} {i b : Nat} {m : MQ} {vL : Value} {su : Nat} {lg : Bs} {ch : Int} (h : XM w T i b m vL (.int .u32 su) lg) (hl : LogIs m lg su) (hok : m.Ok) : Dec m.c (mkB lg) (wakeM m ch) := by
  have hc := (wake_core (ch := ch) h.rels hok h.small).1
  obtain ⟨q, hT, hS⟩ := hl.told
  refine ⟨rfl, hok.good, by rw [mkB_list]; have := hl.len; omega, calm_wake h hok, q, su, lg, ?_, ?_, hl.same rfl hc⟩
  · rw [mkB_list]; exact hT.whole
  · rw [hc]; exact hS

theorem step_moved {w w' : World} {T T' : Nat → Tag} {j i : Nat} {σ : Nat → Nat} (h : Step (XT j) w T w' T') (hj : ∀ k, k < w.heap.size → (T k).i < j) : Step (fun _ => False) w T w' (moveT j i σ T') := by
  have hn : ∀ k, k < w.heap.size → ¬ XT j (T k) := fun k hk hx => by
    have := hj k hk
    have := hx.2
    omega
  exact ⟨h.os, h.tape, h.output, h.size, fun k hk => by rw [move_old (by rw [h.tag k hk]; exact hn k hk), h.tag k hk], fun k hk _ => h.block k hk (hn k hk)⟩

theorem xopenD_any (a0 a1 : Addr) (c : Conf) (s : ByteArray) (q : MQ) (i : Nat) (w : World) (T : Nat → Tag) (hLd : Laid w T a0 a1) (hd : Dec c s q) :
    Calls Tryz.prog 25 #[.agg c.cells, .string s] w fun e w' => ∃ b, e = .returned (.tuple #[.pointer (some ⟨b, 0, none⟩), .int .i64 0]) ∧ ∃ T', Step (fun _ => False) w T w' T' ∧ X w' T' i b q := by
  obtain ⟨j, hj⟩ := fresh_num T w.heap.size
  obtain ⟨co, su, lg, ho, hs, hl⟩ := hd.told
  have hmk : mkB s.data.toList = s := mkB_data s
  refine (open_any c s j w T (fun w' T' b => ∃ vL, CO w' T' j b c co vL su lg) False (fun b mb w1 T1 hc hs1 hB hN => ?_)).mono ?_
  · have hr := restore_any c j b mb s.data.toList a0 a1 w1 T1 hc hB hN (hLd.step hs1 (by simp [XT])) (fun _ => load_any j b c) (by have := hd.size; omega)
    rw [hmk, ho] at hr
    refine hr.mono ?_
    rintro e w2 ⟨T2, s2, rfl, hco⟩
    exact ⟨T2, s2, .inl ⟨rfl, hco⟩⟩
  · rintro e w2 (⟨h, _⟩ | ⟨hc, T2, s2, (⟨b, rfl, vL, hco⟩ | ⟨hF, _⟩)⟩)
    · rw [hd.good] at h; cases h
    · obtain ⟨σ, hx⟩ := co_x (i := i) hco hd.conf hs hd.calm
      exact ⟨b, rfl, moveT j i σ T2, step_moved s2 hj, vL, su, lg, hx, hl, hd.calm.lsd⟩
    · exact hF.elim

/-- a run can crash -/
theorem xd (a0 a1 : Addr) (B : Int) (hB : B ≤ 3999999999999940000) : XD X Dec (fun w T => Laid w T a0 a1) B where
  xc := xc B hB
  log := fun i b m w T hx hf => by
    obtain ⟨vL, s, lg, hx, h2, h3⟩ := hx
    refine (xlog_any i b m w T hx).mono ?_
    rintro e w1 ⟨rfl, rfl⟩
    exact ⟨_, rfl, 0, T, dec_log hx h2 hf.ok, Step.refl _ _ _, vL, s, lg, hx, h2, h3⟩
  ld := fun h hs hS => h.step hs hS
  opn := fun c s q i w T hLd hd => xopenD_any a0 a1 c s q i w T hLd hd

end Go.Proofs.YtockkceclkcgbaaGreatDoor

/- The contract of asked at All. -/
import Derived.Test.YtockkceclkcgbaaGreatDoorA45
import Derived.Test.YtockkceclkcgbaaGreatDoorA48
import Derived.Test.YtockkceclkcgbaaGreatDoorA12
import Derived.ProofKit
import Derived.Deep.Slices
import Derived.Lib.SmallJoins
import Derived.OpenShut
import Derived.Test.YtockkceclkcgbaaGreatDoorTie
import Derived.Test.YtockkceclkcgbaaGreatDoorCards
import Derived.Handed
import Derived.LaidLaws
import Derived.LaidHandle
import Derived.Stop.LaidTwo
import Derived.RowKit
namespace Go.Proofs.YtockkceclkcgbaaGreatDoor
open Go.RowKit

/-- what is seen of a pair's document queue: it has gn groups -/
def Seen (w : World) (p gn : Nat) : Prop := ∃ yb ao cap, p < w.heap.size ∧ w.cell? ⟨p, 1, none⟩ = some (.pointer (some ⟨yb, 0, none⟩)) ∧ yb < w.heap.size ∧ w.cell? ⟨yb, 6, none⟩ = some (.slice ao gn cap) ∧ gn ≤ 6 ∧
    ∀ k, k < gn → ∃ gb nm, ao = some ⟨gb, 0, none⟩ ∧ gb < w.heap.size ∧ w.cell? ⟨gb, k * 4, none⟩ = some (.string nm)
theorem PairM.see {X : World → (Nat → Tag) → Nat → Nat → MQ → Prop} {B : Int} {vs : Value} {lg : ByteArray} {m : MQ} {w : World} {T : Nat → Tag} {i p : Nat} (h : PairM X B vs lg m w T i p) : Seen w p m.rq.groups.length := by
  obtain ⟨bx, yb, hB, hx, hy, hf⟩ := h
  obtain ⟨h1, h2, h3, vB, vG, vi, vd, hY, hR, hG, hI⟩ := hy
  obtain ⟨ao, cap, rfl⟩ := row_form hG
  refine ⟨yb, ao, cap, hB.lt, hB.cell (j := 1) rfl, hY.lt, hY.cell (j := 6) rfl, h2, fun k hk => ?_⟩
  obtain ⟨gb, gc, e⟩ := row_some hG (by omega)
  simp only [Value.slice.injEq] at e
  obtain ⟨rfl, _, _⟩ := e
  obtain ⟨g, hg⟩ : ∃ g, m.rq.groups[k]? = some g := ⟨_, List.getElem?_eq_getElem hk⟩
  exact ⟨gb, g.name, rfl, hG.lt, hG.cell (groupCells_at _ vi vd k g hg).1⟩

/-- what is left when a queue was asked -/
def AskA (B : Int) (a0 a1 : Addr) (w : World) (T : Nat → Tag) (wb : Nat) (c d : Conf) (most : Int) (ps : List Nat) (q q' : Nat) (e : Ending) (w' : World) : Prop :=
  e = .returned (.bool true) ∧ ∃ T' q1 q1', Step (fun t => t ≠ .old) w T w' T' ∧ WA B a0 a1 w' T' wb c d most ps q1 q1' ∧ q1 ≤ q + 2 ∧ q1' ≤ q' + 2
theorem ask_of {B : Int} {a0 a1 : Addr} {m : MQ} {gh : Nat × Bs} {vs : Value} {st : List Stand} {w w' : World} {T : Nat → Tag} {wb : Nat} {c d : Conf} {most : Int} {ps : List Nat} {q q' k p : Nat} {e : Ending} (hw : WA B a0 a1 w T wb c d most ps q q') (hk : ps[k]? = some p) (hst : StM B w T k vs m.c gh st) (hn : (st.length : Int) * 60000 ≤ B + 60000) (h : CallPostZ (XAt m gh) B vs (mkB gh.2) w T wb c d most ps q q' k p e w') : AskA B a0 a1 w T wb c d most ps q q' e w' := by
  obtain ⟨rfl, T', q1, q1', hs, hwb, hp, e1, e2⟩ := h
  have hkH : k < HI := by
    have h1 := (List.getElem?_eq_some_iff.1 hk).1
    have h2 := hw.few
    unfold HI
    omega
  refine ⟨rfl, T', q1, q1', hs.mono (fun t ht => callS_old ht), ⟨hwb, hw.laid.step hs (fun h => callS_old h rfl), hw.few, fun i x hi => ?_⟩, e1, e2⟩
  by_cases hik : i = k
  · subst hik
    rw [hk] at hi
    cases hi
    exact ⟨vs, m, gh, st, hp, hst.step hs (by rintro ((h | ⟨r, j, h⟩) | h | h); exact absurd h.1 (by simp); cases h; cases h; exact absurd h.2 (by simp)) (far_call hkH), hn⟩
  · exact other_call hik hkH hs (hw.prs i x hi)

theorem toldA_done {B : Int} {a0 a1 : Addr} (hlm : B ≤ 100000000000) (wb : Nat) (c d : Conf) (most : Int) (ps : List Nat) (q q' k p : Nat) (s : ByteArray) (m : MQ) (gh : Nat × Bs) (vs : Value) (st : List Stand) (w : World) (T : Nat → Tag) (hw : WA B a0 a1 w T wb c d most ps q q') (hk : ps[k]? = some p) (hm : PairM (XAt m gh) B vs (mkB gh.2) m w T k p) (hst : StM B w T k vs m.c gh st) (hn : (st.length : Int) * 60000 ≤ B + 60000) (hq : q ≤ 900000000) :
    Calls Tryz.prog 17 #[.pointer (some ⟨wb, 0, none⟩), .pointer (some ⟨p, 0, none⟩), .int .i64 9, .string s] w fun e w' => AskA B a0 a1 w T wb c d most ps q q' e w' ∧ Seen w' p m.rq.groups.length := by
  obtain ⟨vP, vr, vd, h1, h2, h3, h4⟩ := hw.blk
  refine (told_doneM (xz m gh B (by omega)) (Int.le_refl _) k p wb _ vr q s m w T hm h1 rfl h3 hq).mono ?_
  rintro e w' ⟨rfl, T', vr', hs, hp', hW, hR⟩
  exact ⟨ask_of hw hk hst hn (post_done h2 h4 hs hp'.pair hW hR), hp'.see⟩
theorem toldA_dead {B : Int} {a0 a1 : Addr} (hlm : B ≤ 100000000000) (wb : Nat) (c d : Conf) (most : Int) (ps : List Nat) (q q' k p : Nat) (s : ByteArray) (w : World) (T : Nat → Tag) (hw : WA B a0 a1 w T wb c d most ps q q') (hk : ps[k]? = some p) (hq' : q' ≤ 900000000) :
    Calls Tryz.prog 17 #[.pointer (some ⟨wb, 0, none⟩), .pointer (some ⟨p, 0, none⟩), .int .i64 10, .string s] w (AskA B a0 a1 w T wb c d most ps q q') := by
  obtain ⟨vP, vr, vd, h1, h2, h3, h4⟩ := hw.blk
  obtain ⟨vs, m, gh, st, hp, hst, hn⟩ := hw.prs k p hk
  refine (told_dead (xz m gh B (by omega)) (Int.le_refl _) k p wb _ vd q' s w T hp h1 rfl h4 hq').mono ?_
  rintro e w' ⟨rfl, T', vd', hs, hp', hW, hD⟩
  exact ask_of hw hk hst hn (post_dead h2 h3 hs hp' hW hD)
theorem toldA_span {B : Int} {a0 a1 : Addr} (hlm : B ≤ 100000000000) (wb : Nat) (c d : Conf) (most : Int) (ps : List Nat) (q q' k p : Nat) (s : ByteArray) (w : World) (T : Nat → Tag) (hw : WA B a0 a1 w T wb c d most ps q q') (hk : ps[k]? = some p) :
    Calls Tryz.prog 17 #[.pointer (some ⟨wb, 0, none⟩), .pointer (some ⟨p, 0, none⟩), .int .i64 11, .string s] w (AskA B a0 a1 w T wb c d most ps q q') := by
  obtain ⟨vs, m, gh, st, hp, hst, hn⟩ := hw.prs k p hk
  refine (told_spanT (xz m gh B (by omega)) (Int.le_refl _) k p _ s w T hp).mono ?_
  rintro e w' ⟨rfl, T', hs, hp'⟩
  exact ask_of hw hk hst hn (post_queues hw.blk (hs.mono (fun _ h => .inl h)) hp')

/-- what is seen of the law's world -/
theorem WA.see {B : Int} {a0 a1 : Addr} {w : World} {T : Nat → Tag} {wb : Nat} {c d : Conf} {most : Int} {ps : List Nat} {q q' : Nat} (h : WA B a0 a1 w T wb c d most ps q q') : ∃ ao cap, wb < w.heap.size ∧ w.cell? ⟨wb, 8, none⟩ = some (.slice ao ps.length cap) ∧
    ∀ k p, ps[k]? = some p → ∃ gb, ao = some ⟨gb, 0, none⟩ ∧ gb < w.heap.size ∧ w.cell? ⟨gb, k, none⟩ = some (.pointer (some ⟨p, 0, none⟩)) := by
  obtain ⟨vP, vr, vd, h1, h2, h3, h4⟩ := h.blk
  obtain ⟨ao, cap, rfl⟩ := row_form h2
  refine ⟨ao, cap, h1.lt, h1.cell (j := 8) rfl, fun k p hk => ?_⟩
  have hlt := (List.getElem?_eq_some_iff.1 hk).1
  obtain ⟨gb, gc, e⟩ := row_some h2 (by omega)
  simp only [Value.slice.injEq] at e
  obtain ⟨rfl, _, _⟩ := e
  exact ⟨gb, rfl, h2.lt, h2.cell (by simp [hk, ptrV])⟩

theorem wholeA {B : Int} {a0 a1 : Addr} (wb : Nat) (c d : Conf) (most : Int) (ps : List Nat) (q q' : Nat) (w : World) (T : Nat → Tag) (hw : WA B a0 a1 w T wb c d most ps q q') (hq : q ≤ 1000000000) (hq' : q' ≤ 1000000000) :
    Calls Tryz.prog 53 #[.pointer (some ⟨wb, 9, none⟩)] w fun e w' => e = .returned (.bool true) ∧ Below w.heap.size w w' := by
  obtain ⟨vP, vr, vd, h1, h2, h3, h4⟩ := hw.blk
  exact wholeT_any w T wb _ q q' vr vd h1 rfl rfl h3 h4 hq hq'

set_option maxRecDepth 100000 in
set_option maxHeartbeats 4000000 in
theorem askedA_any {B : Int} {a0 a1 : Addr} (hlm : B ≤ 100000000000) (wb : Nat) (c d : Conf) (most : Int) (ps : List Nat) (q q' : Nat) (w : World) (T : Nat → Tag) (hw : WA B a0 a1 w T wb c d most ps q q') (hlen : ps.length ≤ 10000000) (hq : q ≤ 500000000) (hq' : q' ≤ 500000000) :
    Calls Tryz.prog 54 #[.pointer (some ⟨wb, 0, none⟩)] w fun e w' => e = .returned (.bool true) ∧ ∃ T', Step (fun t => t ≠ .old) w T w' T' := by
  go_enter Tryz.func54, Tryz.ntmps54
  go_wp2_with fail
  go_loopw [3] (fun x wr => ∃ (k : Nat) (T1 : Nat → Tag) (q1 q1' : Nat), k ≤ ps.length ∧ x = .int .i64 k ∧ Step (fun t => t ≠ .old) w T wr T1 ∧ WA B a0 a1 wr T1 wb c d most ps q1 q1' ∧ q1 ≤ q + 26 * k ∧ q1' ≤ q' + 26 * k) (fun x _ => ps.length - (intOf x).toNat)
  case atStart => exact ⟨0, T, q, q', Nat.zero_le _, rfl, Step.refl _ _ _, hw, by omega, by omega⟩
  case round =>
    obtain ⟨k, T1, q1, q1', hk, rfl, hs1, hw1, g1, g1'⟩ := hrel
    clear hw
    obtain ⟨ao, cap, lw, c8, hrow⟩ := hw1.see
    by_cases hlt : k < ps.length
    · obtain ⟨p, hp⟩ : ∃ p, ps[k]? = some p := ⟨_, List.getElem?_eq_getElem hlt⟩
      obtain ⟨gb, rfl, lg, cp⟩ := hrow k p hp
      clear hrow
      go_wp2_with fail
      refine (toldA_span hlm wb c d most ps q1 q1' k p _ _ T1 hw1 hp).mono ?_
      rintro e w2 ⟨rfl, T2, q2, q2', hs2, hw2, g2, g2'⟩
      replace hs2 := hs1.trans hs2
      clear hw1 hs1 c8 cp lw lg
      go_wp2_with fail
      go_loopw [5, 6] (fun o x wr => ∃ (j : Nat) (T3 : Nat → Tag) (q3 q3' : Nat), j ≤ 6 ∧ o = .bool true ∧ x = .int .i64 j ∧ Step (fun t => t ≠ .old) w T wr T3 ∧ WA B a0 a1 wr T3 wb c d most ps q3 q3' ∧ q3 ≤ q + 26 * k + 2 + 4 * j ∧ q3' ≤ q' + 26 * k + 2 + 4 * j) (fun _ x _ => 6 - (intOf x).toNat)
      case atStart => exact ⟨0, T2, q2, q2', Nat.zero_le _, rfl, rfl, hs2, hw2, by omega, by omega⟩
      case round =>
        obtain ⟨j, T3, q3, q3', hj, rfl, rfl, hs3, hw3, g3, g3'⟩ := hrel
        clear hw2 hs2 g2 g2' g1 g1'
        obtain ⟨vs, m, gh, st, hpz, hst, hn⟩ := hw3.prs k p hp
        obtain ⟨mx, hm⟩ := pairM_of hpz
        obtain rfl : mx = m := by
          obtain ⟨_, _, _, ⟨e, _⟩, _⟩ := hm
          exact e
        obtain ⟨yb, ao, cap, lp, p1, ly, y6, h6, hgr⟩ := hm.see
        have hld := toldA_done (a0 := a0) (a1 := a1) hlm wb c d most ps q3 q3' k p
        have hm' := hm
        clear hm hpz
        by_cases hjt : j < mx.rq.groups.length
        · obtain ⟨hb, nm, rfl, lh, cn⟩ := hgr j hjt
          clear hgr
          replace hld := hld nm mx gh vs st _ T3 hw3 hp hm' hst hn (by omega)
          clear hst hn hm'
          generalize mx.rq.groups.length = gn at *
          go_wp2_with fail
          refine hld.mono ?_
          rintro e w4 ⟨⟨rfl, T4, q4, q4', hs4, hw4, g4, g4'⟩, yb4, ao4, cap4, lp4, p4, ly4, y4, _, hgr4⟩
          obtain ⟨hb4, nm4, rfl, lh4, cn4⟩ := hgr4 j hjt
          clear hld hw3 lp p1 ly y6 lh cn hgr4
          go_wp2_with fail
          refine (toldA_dead hlm wb c d most ps q4 q4' k p nm4 _ T4 hw4 hp (by omega)).mono ?_
          rintro e w5 ⟨rfl, T5, q5, q5', hs5, hw5, g5, g5'⟩
          clear lp4 p4 ly4 y4 lh4 cn4 hw4
          go_wp2
          refine ⟨⟨j + 1, T5, q5, q5', by omega, by first | rfl | simp, by simp, (hs3.trans hs4).trans hs5, hw5, by omega, by omega⟩, by simp [intOf]; omega⟩
        · clear hgr hld hm' hst hn
          generalize mx.rq.groups.length = gn at *
          go_wp2
          refine ⟨⟨k + 1, T3, q3, q3', by omega, by simp, hs3, hw3, by omega, by omega⟩, by simp [intOf]; omega⟩
    · clear hrow
      go_wp2_with fail
      refine (wholeA wb c d most ps q1 q1' _ T1 hw1 (by omega) (by omega)).mono ?_
      rintro e w2 ⟨rfl, hb2⟩
      go_wp2
      go_ret
      exact ⟨by first | rfl | simp, T1, hs1.trans (step_below _ T1 hb2)⟩

end Go.Proofs.YtockkceclkcgbaaGreatDoor

/- UpTo at All, walked: it returns -1, and changes nothing that was there. -/
namespace Go.Proofs.YtockkceclkcgbaaGreatDoor
open Go.RowKit

/-- the world with which UpTo begins its first steps -/
theorem upTo_startA {a0 a1 : Addr} (c d : Conf) (w : World) (hLd : Laid w (fun _ => .old) a0 a1) : ∃ w4 T4, w4 = (((w.alloc (.cells c.cells 23)).alloc (.cells d.cells 23)).alloc (.cells #[.int .i64 10, .int .i64 2, .int .i64 2, .int .i64 5, .int .i64 0, .int .i64 0, .int .i64 0, .int .i64 0, .slice none 0 0, .slice none 0 0, .slice none 0 0, .int .i64 14] 33)).alloc (.cells #[.int .i64 1, .int .i64 0, .string ⟨#[]⟩, .string ⟨#[]⟩, .int .i64 0, .int .i64 0, .int .i64 0, .bool false, .int .i64 2, .int .i64 0, .string ⟨#[]⟩, .string ⟨#[97]⟩, .int .i64 0, .int .i64 0, .int .i64 0, .bool false, .int .i64 3, .int .i64 0, .string ⟨#[103]⟩, .string ⟨#[]⟩, .int .i64 0, .int .i64 0, .int .i64 0, .bool false, .int .i64 4, .int .i64 0, .string ⟨#[103]⟩, .string ⟨#[]⟩, .int .i64 9, .int .i64 0, .int .i64 0, .bool false, .int .i64 5, .int .i64 0, .string ⟨#[103]⟩, .string ⟨#[]⟩, .int .i64 0, .int .i64 0, .int .i64 0, .bool false, .int .i64 9, .int .i64 0, .string ⟨#[103]⟩, .string ⟨#[]⟩, .int .i64 0, .int .i64 0, .int .i64 0, .bool false] 46) ∧ Step (fun t => t ≠ .old) w (fun _ => .old) w4 T4 ∧
    WA 0 a0 a1 w4 T4 (w.heap.size + 1 + 1) conf0 confZ 14 [] 0 0 ∧ Blk w4 T4 .old w.heap.size c.cells 23 ∧ Blk w4 T4 .old (w.heap.size + 1) d.cells 23 ∧
    ArgO w4 (some ⟨w.heap.size + 1 + 1 + 1, 0, none⟩) firstOps ∧ T4 (w.heap.size + 1 + 1 + 1) = .old := by
  obtain ⟨T1, f1, hw1, hc1, hd1⟩ := law_startA c d 14 w hLd
  have e3 : ((w.alloc (.cells c.cells 23)).alloc (.cells d.cells 23)).alloc (.cells (wtCells conf0 confZ (.slice none 0 0) (.slice none 0 0) (.slice none 0 0) 14) 33) = ((w.alloc (.cells c.cells 23)).alloc (.cells d.cells 23)).alloc (.cells #[.int .i64 10, .int .i64 2, .int .i64 2, .int .i64 5, .int .i64 0, .int .i64 0, .int .i64 0, .int .i64 0, .slice none 0 0, .slice none 0 0, .slice none 0 0, .int .i64 14] 33) := rfl
  rw [e3] at f1 hw1 hc1 hd1
  clear e3
  have s3 : (((w.alloc (.cells c.cells 23)).alloc (.cells d.cells 23)).alloc (.cells #[.int .i64 10, .int .i64 2, .int .i64 2, .int .i64 5, .int .i64 0, .int .i64 0, .int .i64 0, .int .i64 0, .slice none 0 0, .slice none 0 0, .slice none 0 0, .int .i64 14] 33)).heap.size = w.heap.size + 1 + 1 + 1 := by simp
  generalize ((w.alloc (.cells c.cells 23)).alloc (.cells d.cells 23)).alloc (.cells #[.int .i64 10, .int .i64 2, .int .i64 2, .int .i64 5, .int .i64 0, .int .i64 0, .int .i64 0, .int .i64 0, .slice none 0 0, .slice none 0 0, .slice none 0 0, .int .i64 14] 33) = w3 at *
  have e4 : (#[.int .i64 1, .int .i64 0, .string ⟨#[]⟩, .string ⟨#[]⟩, .int .i64 0, .int .i64 0, .int .i64 0, .bool false, .int .i64 2, .int .i64 0, .string ⟨#[]⟩, .string ⟨#[97]⟩, .int .i64 0, .int .i64 0, .int .i64 0, .bool false, .int .i64 3, .int .i64 0, .string ⟨#[103]⟩, .string ⟨#[]⟩, .int .i64 0, .int .i64 0, .int .i64 0, .bool false, .int .i64 4, .int .i64 0, .string ⟨#[103]⟩, .string ⟨#[]⟩, .int .i64 9, .int .i64 0, .int .i64 0, .bool false, .int .i64 5, .int .i64 0, .string ⟨#[103]⟩, .string ⟨#[]⟩, .int .i64 0, .int .i64 0, .int .i64 0, .bool false, .int .i64 9, .int .i64 0, .string ⟨#[103]⟩, .string ⟨#[]⟩, .int .i64 0, .int .i64 0, .int .i64 0, .bool false] : Array Value) = (opsCells firstOps).toArray := rfl
  rw [e4]
  have a4 := step_new w3 T1 (.cells (opsCells firstOps).toArray 46) .old (fun _ => False)
  have b4 := first_arg w3
  have r4 := retag_same T1 w3.heap.size .old
  refine ⟨_, _, rfl, (f1.trans a4).mono (fun _ h => h.elim), hw1.step a4 (fun _ h => h), hc1.step a4 (fun h => h), hd1.step a4 (fun h => h), ?_, ?_⟩
  · rw [← s3]; exact b4
  · rw [← s3]; exact r4

set_option maxRecDepth 100000 in
set_option maxHeartbeats 8000000 in
theorem upToA_any {a0 a1 : Addr} (c d : Conf) (l : List OpV) (ao : Option Addr) (cap : Nat) (w : World) (hl : ArgO w ao l) (hlen : l.length ≤ 1048576) (hLd : Laid w (fun _ => .old) a0 a1) :
    Calls Tryz.prog 18 #[.agg c.cells, .agg d.cells, .slice ao l.length cap, .int .i64 14] w fun e w' => e = .returned (.int .i64 (-1)) ∧ Below w.heap.size w w' := by
  obtain ⟨w4, T4, e4, f4, hw4, hc4, hd4, hA4, hT4⟩ := upTo_startA c d w hLd
  go_enter Tryz.func18, Tryz.ntmps18
  go_wp2_with fail
  rw [← e4]
  clear e4
  generalize w.heap.size + 1 + 1 + 1 = fb at *
  generalize w.heap.size + 1 + 1 = wb at *
  generalize hdb : w.heap.size + 1 = db at *
  generalize hcb : w.heap.size = cb at hc4 ⊢
  go_loopw [11] (fun x wr => ∃ (k : Nat) (T' : Nat → Tag) (qs : List Nat) (q1 q1' : Nat), k ≤ 6 ∧ x = .int .i64 k ∧ Step (fun t => t ≠ .old) w4 T4 wr T' ∧ WA (60000 * (k : Int)) a0 a1 wr T' wb conf0 confZ 14 qs q1 q1' ∧ (k = 0 ∨ 0 < qs.length) ∧ qs.length ≤ k ∧ q1 ≤ 2 * k ∧ q1' ≤ 2 * k) (fun x _ => 6 - (intOf x).toNat)
  case atStart => exact ⟨0, T4, [], 0, 0, Nat.zero_le _, rfl, Step.refl _ _ _, hw4, .inl rfl, Nat.zero_le _, Nat.zero_le _, Nat.zero_le _⟩
  case round =>
    obtain ⟨k, T', qs, q1, q1', hk, rfl, hs, hw, hp, hq, g1, g1'⟩ := hrel
    by_cases hlt : k < 6
    · obtain ⟨o, ho⟩ : ∃ o, firstOps[k]? = some o := ⟨_, List.getElem?_eq_getElem (by exact hlt)⟩
      obtain ⟨h1, h2, ob, off, e, hob, hcl⟩ := hA4 k o ho
      simp only [Option.some.injEq, Addr.mk.injEq] at e
      obtain ⟨rfl, rfl, _⟩ := e
      have q0 := (hs.cell (p := ⟨fb, 0 + k * 8 + 0, none⟩) hob (by simp [hT4])).trans (hcl 0 _ rfl)
      have q1 := (hs.cell (p := ⟨fb, 0 + k * 8 + 1, none⟩) hob (by simp [hT4])).trans (hcl 1 _ rfl)
      have q2 := (hs.cell (p := ⟨fb, 0 + k * 8 + 2, none⟩) hob (by simp [hT4])).trans (hcl 2 _ rfl)
      have q3 := (hs.cell (p := ⟨fb, 0 + k * 8 + 3, none⟩) hob (by simp [hT4])).trans (hcl 3 _ rfl)
      have q4 := (hs.cell (p := ⟨fb, 0 + k * 8 + 4, none⟩) hob (by simp [hT4])).trans (hcl 4 _ rfl)
      have q5 := (hs.cell (p := ⟨fb, 0 + k * 8 + 5, none⟩) hob (by simp [hT4])).trans (hcl 5 _ rfl)
      have q6 := (hs.cell (p := ⟨fb, 0 + k * 8 + 6, none⟩) hob (by simp [hT4])).trans (hcl 6 _ rfl)
      have q7 := (hs.cell (p := ⟨fb, 0 + k * 8 + 7, none⟩) hob (by simp [hT4])).trans (hcl 7 _ rfl)
      rw [Nat.add_zero] at q0
      simp only [List.getElem_toArray, List.getElem_cons_succ, List.getElem_cons_zero, Nat.zero_add] at q0 q1 q2 q3 q4 q5 q6 q7
      have hpos : 0 < qs.length ∨ (o.kind = 1 ∧ goodC (selC o.n conf0 confZ) = true) := by
        rcases hp with rfl | hp
        · right
          simp only [firstOps, List.getElem?_cons_zero, Option.some.injEq] at ho
          subst ho
          exact ⟨rfl, by decide⟩
        · exact .inl hp
      have hst := stepA_pos (B := 60000 * (k : Int)) (by omega) (by omega) wb conf0 confZ qs _ _ o.kind o.qu o.nm o.bd o.n o.tr o.ms o.yes wr T' hw h2 h1 hpos (by omega) (by omega) (by omega)
      clear hl hcl hA4 hw hp hpos ho hc4 hd4 f4 hT4 hw4
      go_wp2_with fail
      unfold opCells at hst
      refine hst.mono ?_
      clear hst
      rintro e w9 ⟨rfl, T9, qs9, q9, q9', hs9, hw9, a9, b9, g9, g9'⟩
      go_wp2
      refine ⟨⟨k + 1, T9, qs9, q9, q9', by omega, by simp, hs.trans hs9, by rw [show (60000 : Int) * ((k + 1 : Nat) : Int) = 60000 * (k : Int) + 60000 by omega]; exact hw9, .inr a9, by omega, by omega, by omega⟩, by simp [intOf]; omega⟩
    · have hk6 : k = 6 := by omega
      subst hk6
      replace hp : 0 < qs.length := by omega
      have hc5 := hc4.step hs (by simp)
      have hd5 := hd4.step hs (by simp)
      replace f4 := f4.trans hs
      clear hA4 hc4 hd4 hT4 hw4 hs hlt hk
      have hw' : WA 360000 a0 a1 wr T' wb conf0 confZ 14 qs q1 q1' := hw
      clear hw
      -- the caller's two configurations
      obtain ⟨hw5, hs5⟩ := hw'.conf0 c
      obtain ⟨vP4, vr4, vd4, hB4, _, _, _⟩ := hw'.blk
      have e0 := hB4.cell (j := 0) rfl
      have e1 := hB4.cell (j := 1) rfl
      have e2 := hB4.cell (j := 2) rfl
      have e3 := hB4.cell (j := 3) rfl
      have z0 := hB4.frozen 0
      have z1 := hB4.frozen 1
      have z2 := hB4.frozen 2
      have z3 := hB4.frozen 3
      have g0 := hc5.cell (j := 0) rfl
      have g1 := hc5.cell (j := 1) rfl
      have g2 := hc5.cell (j := 2) rfl
      have g3 := hc5.cell (j := 3) rfl
      simp only [List.getElem_toArray, List.getElem_cons_succ, List.getElem_cons_zero] at e0 e1 e2 e3 g0 g1 g2 g3
      go_wp2_with fail
      go_region
      have hw5d := hw5.step (step_below (fun _ => False) T' (Below.refl _ _).drew) (fun _ h => h)
      have hs5d := hs5.trans (step_below (fun t => t = .world) T' (Below.refl _ _).drew)
      replace hd5 := hd5.step hs5d (by simp)
      have f5 := f4.trans (notOld_world hs5d (by simp))
      clear hw5 hs5 hs5d hB4 e0 e1 e2 e3 z0 z1 z2 z3 g0 g1 g2 g3 hc5 f4
      generalize ((((wr.setCell ⟨wb, 0, none⟩ (.int .i64 c.l)).setCell ⟨wb, 1, none⟩ (.int .i64 c.d)).setCell ⟨wb, 2, none⟩ (.int .i64 c.s)).setCell ⟨wb, 3, none⟩ (.int .i64 c.k)).drew = w5 at *
      obtain ⟨hw6, hs6⟩ := hw5d.conf1 d
      obtain ⟨vP5, vr5, vd5, hB5, _, _, _⟩ := hw5d.blk
      have e4 := hB5.cell (j := 4) rfl
      have e5 := hB5.cell (j := 5) rfl
      have e6 := hB5.cell (j := 6) rfl
      have e7 := hB5.cell (j := 7) rfl
      have z4 := hB5.frozen 4
      have z5 := hB5.frozen 5
      have z6 := hB5.frozen 6
      have z7 := hB5.frozen 7
      have g0 := hd5.cell (j := 0) rfl
      have g1 := hd5.cell (j := 1) rfl
      have g2 := hd5.cell (j := 2) rfl
      have g3 := hd5.cell (j := 3) rfl
      simp only [List.getElem_toArray, List.getElem_cons_succ, List.getElem_cons_zero] at e4 e5 e6 e7 g0 g1 g2 g3
      go_wp2_with fail
      go_region
      have hw6d := hw6.step (step_below (fun _ => False) T' (Below.refl _ _).drew) (fun _ h => h)
      have hs6d := hs6.trans (step_below (fun t => t = .world) T' (Below.refl _ _).drew)
      have f6 := f5.trans (notOld_world hs6d (by simp))
      clear hw6 hs6 hs6d hB5 e4 e5 e6 e7 z4 z5 z6 z7 g0 g1 g2 g3 hd5 f5
      generalize ((((w5.setCell ⟨wb, 4, none⟩ (.int .i64 d.l)).setCell ⟨wb, 5, none⟩ (.int .i64 d.d)).setCell ⟨wb, 6, none⟩ (.int .i64 d.s)).setCell ⟨wb, 7, none⟩ (.int .i64 d.k)).drew = w6 at *
      clear hcb hdb
      go_wp2_with fail
      go_loopw [13] (fun x wx => ∃ (k : Nat) (Tx : Nat → Tag) (rs : List Nat) (r r' : Nat), k ≤ l.length ∧ x = .int .i64 k ∧ Step (fun t => t ≠ .old) w (fun _ => .old) wx Tx ∧ WA (60000 * ((k : Int) + 6)) a0 a1 wx Tx wb c d 14 rs r r' ∧ 0 < rs.length ∧ rs.length ≤ k + 6 ∧ r ≤ 2 * (k + 6) ∧ r' ≤ 2 * (k + 6)) (fun x _ => l.length - (intOf x).toNat)
      case atStart => exact ⟨0, T', qs, q1, q1', Nat.zero_le _, rfl, f6, hw6d, hp, by omega, by omega, by omega⟩
      case round =>
        obtain ⟨k, Tx, rs, r, r', hk, rfl, hs, hw, hpx, hqx, gx, gx'⟩ := hrel
        clear hw6d f6 hp hq g1 g1'
        by_cases hlt : k < l.length
        · obtain ⟨o, ho⟩ : ∃ o, l[k]? = some o := ⟨_, List.getElem?_eq_getElem hlt⟩
          obtain ⟨h1, h2, ob, off, rfl, hob, hcl⟩ := hl k o ho
          have q0 := (hs.cell (p := ⟨ob, off + k * 8 + 0, none⟩) hob (by simp)).trans (hcl 0 _ rfl)
          have q1 := (hs.cell (p := ⟨ob, off + k * 8 + 1, none⟩) hob (by simp)).trans (hcl 1 _ rfl)
          have q2 := (hs.cell (p := ⟨ob, off + k * 8 + 2, none⟩) hob (by simp)).trans (hcl 2 _ rfl)
          have q3 := (hs.cell (p := ⟨ob, off + k * 8 + 3, none⟩) hob (by simp)).trans (hcl 3 _ rfl)
          have q4 := (hs.cell (p := ⟨ob, off + k * 8 + 4, none⟩) hob (by simp)).trans (hcl 4 _ rfl)
          have q5 := (hs.cell (p := ⟨ob, off + k * 8 + 5, none⟩) hob (by simp)).trans (hcl 5 _ rfl)
          have q6 := (hs.cell (p := ⟨ob, off + k * 8 + 6, none⟩) hob (by simp)).trans (hcl 6 _ rfl)
          have q7 := (hs.cell (p := ⟨ob, off + k * 8 + 7, none⟩) hob (by simp)).trans (hcl 7 _ rfl)
          rw [Nat.add_zero] at q0
          simp only [List.getElem_toArray, List.getElem_cons_succ, List.getElem_cons_zero] at q0 q1 q2 q3 q4 q5 q6 q7
          have hst := stepA_pos (B := 60000 * ((k : Int) + 6)) (by omega) (by omega) wb c d rs _ _ o.kind o.qu o.nm o.bd o.n o.tr o.ms o.yes wr Tx hw h2 h1 (.inl hpx) (by omega) (by omega) (by omega)
          clear hl hcl hw ho
          go_wp2_with fail
          unfold opCells at hst
          refine hst.mono ?_
          clear hst
          rintro e w9 ⟨rfl, T9, qs9, q9, q9', hs9, hw9, a9, b9, g9, g9'⟩
          have lw9 : wb < w9.heap.size := hw9.see.choose_spec.choose_spec.1
          clear q0 q1 q2 q3 q4 q5 q6 q7
          go_wp2_with fail
          refine (wholeA wb c d 14 qs9 q9 q9' _ T9 hw9 (by omega) (by omega)).mono ?_
          rintro e wz ⟨rfl, hbz⟩
          have hsz := step_below (fun _ => False) T9 hbz
          have hwz := hw9.step hsz (fun _ h => h)
          go_wp2
          refine ⟨?_, ?_⟩
          · refine ⟨_, _, _, _, _, _, _, _, _, _, _, _, _, _, _, _, _, _, _, _, _, _, _, _, _, _, _, ⟨k + 1, T9, qs9, q9, q9', ?_, ?_, ?_, ?_, ?_, ?_, ?_, ?_⟩, rfl⟩
            · omega
            · simp
            · exact (hs.trans hs9).trans (hsz.mono (fun _ h => h.elim))
            · rw [show (60000 : Int) * (((k + 1 : Nat) : Int) + 6) = 60000 * ((k : Int) + 6) + 60000 by omega]; exact hwz
            · exact a9
            · omega
            · omega
            · omega
          · simp [intOf]; omega
        · have hask := askedA_any (B := 60000 * ((k : Int) + 6)) (by omega) wb c d 14 rs r r' wr Tx hw (by omega) (by omega) (by omega)
          clear hl hw
          go_wp2_with fail
          refine hask.mono ?_
          clear hask
          rintro e w9 ⟨rfl, T9, hs9⟩
          replace hs9 := hs.trans hs9
          go_wp2
          go_ret
          exact ⟨by first | rfl | simp, hs9.os, hs9.tape, hs9.output, hs9.size, fun k hk => hs9.block k hk (by simp)⟩

end Go.Proofs.YtockkceclkcgbaaGreatDoor

/- The arguments of Opens and Taken, opened. -/
namespace Go.Proofs.YtockkceclkcgbaaGreatDoor
open Go.ChangeShapes Go.WideShapes Go.ChangeAt Go.RowKit

theorem ArgO.below {w w' : World} {ao : Option Addr} {l : List OpV} (h : ArgO w ao l) (hb : Below w.heap.size w w') : ArgO w' ao l := by
  intro k o hk
  obtain ⟨h1, h2, b, off, rfl, hlt, hc⟩ := h k o hk
  exact ⟨h1, h2, b, off, rfl, Nat.lt_of_lt_of_le hlt hb.size, fun j v hj => (hb.cell (p := ⟨b, off + k * 8 + j, none⟩) hlt).trans (hc j v hj)⟩

theorem bulk_one {H : Type} (d : DataW H) : 1 ≤ Rows.uptoBulk d := by
  cases d with
  | lit l => cases l <;> simp [Rows.uptoBulk]
  | nil => simp [Rows.uptoBulk]
  | ptr d => simp [Rows.uptoBulk]
  | slice elems spare => simp [Rows.uptoBulk]
  | agg parts => simp [Rows.uptoBulk]
  | iface t d => simp [Rows.uptoBulk]
  | map entries => simp [Rows.uptoBulk]
  | held h => simp [Rows.uptoBulk]

theorem bulk_length {H : Type} (l : List (DataW H)) : l.length ≤ Rows.uptoBulkAll l := by
  induction l with
  | nil => simp [Rows.uptoBulkAll]
  | cons x r ih => have := bulk_one x; simp only [Rows.uptoBulkAll, List.length_cons]; omega

theorem bulk_slice {H : Type} (elems spare : List (DataW H)) : elems.length ≤ Rows.uptoBulk (.slice elems spare) := by
  have := bulk_length elems
  simp only [Rows.uptoBulk]; omega

theorem Tryz.own : ownKnob Tryz.prog.godebug = none := by kernel_rfl
theorem Tryz.laidOut : laidOutB Tryz.prog = true := by kernel_rfl
theorem Tryz.cells3 : Tryz.prog.cellsOf 3 = 1 := by kernel_rfl
theorem Tryz.cells4 : Tryz.prog.cellsOf 4 = 1 := by kernel_rfl
theorem Tryz.cells9 : Tryz.prog.cellsOf 9 = 1 := by kernel_rfl
theorem Tryz.cells23 : Tryz.prog.cellsOf 23 = 4 := by kernel_rfl
theorem Tryz.cells46 : Tryz.prog.cellsOf 46 = 8 := by kernel_rfl

theorem i64_of_wf {n : Int} (h : (Lit.int .i64 n).wf = true) : i64 n := by
  simp [Lit.wf, IntKind.min, IntKind.max, IntKind.signed, IntKind.bits] at h
  unfold i64
  omega

set_option maxRecDepth 100000 in
/-- A configuration among the arguments, opened. -/
theorem open_conf {H : Type} {enc : TypeId × Value → H} {W : World} {b0 : Nat} {v : Value} {d : DataW H} {p : List MemPlace} (hv : Value.okWide Tryz.prog W .any b0 23 v) (h : DataW.Trod enc Tryz.prog W 0 (fun _ => true) true 23 v d p) :
    ∃ c : Conf, v = .agg c.cells := by
  obtain ⟨c0, c1, c2, c3, y0, y1, y2, y3, n, rfl, _, _, h0, h1, h2, h3⟩ := Joins.open_agg4 Tryz.underlying23 (by kernel_rfl) Tryz.cells23 hv h
  obtain ⟨a0, e0, _, _⟩ := DataW.trod_int Tryz.underlying3 h0
  obtain ⟨a1, e1, _, _⟩ := DataW.trod_int Tryz.underlying3 h1
  obtain ⟨a2, e2, _, _⟩ := DataW.trod_int Tryz.underlying3 h2
  obtain ⟨a3, e3, _, _⟩ := DataW.trod_int Tryz.underlying3 h3
  simp only [List.cons.injEq, and_true] at e0 e1 e2 e3
  exact ⟨⟨a0, a1, a2, a3⟩, by rw [e0, e1, e2, e3]⟩

set_option maxRecDepth 100000 in
/-- The script among the arguments, opened. -/
theorem open_ops {H : Type} {enc : TypeId × Value → H} {W : World} {v : Value} {d : DataW H} {p : List MemPlace} {fuel : Nat} {a0 : Option Addr} {len cap : Nat} (hv : v = .slice a0 len cap)
    (hf : DataW.trod enc Tryz.prog W 0 (fun _ => true) true fuel 24 v.cells.toList = some (d, p)) :
    ∃ l : List OpV, len = l.length ∧ ArgO W a0 l ∧ (l.length = 0 ∨ ∃ xs ys, d = .slice xs ys ∧ xs.length = l.length) := by
  subst hv
  rcases Deep.open_slice Tryz.underlying24 hf with ⟨hcs, _⟩ | ⟨a, len', cap', m, n, D, Pl, hcs, _, hl, hm, hmm, hx, hel⟩
  · simp [Value.cells] at hcs
    obtain ⟨rfl, rfl, rfl⟩ := hcs
    exact ⟨[], rfl, fun k o h => by simp at h, .inl rfl⟩
  · simp [Value.cells] at hcs
    obtain ⟨rfl, rfl, rfl⟩ := hcs
    have hlm : len ≤ m := by rw [hmm]; split <;> omega
    have each : ∀ i, i < m → ∃ o : OpV, i64 o.qu ∧ i64 o.n ∧ ∀ j u, o.cells[j]? = some u → W.cell? (a.add (i * 8 + j)) = some u := by
      intro i hi
      obtain ⟨cs', h1, h2⟩ := hel i hi
      rw [Tryz.cells46] at h1
      obtain ⟨_, hlen, hcell⟩ := World.cells?_some h1
      obtain ⟨xs, k, _, _, _, hxl, hfd⟩ := DataW.trod_struct Tryz.underlying46 h2
      match xs, hxl, cs', hlen with
      | [y0, y1, y2, y3, y4, y5, y6, y7], _, [v0, v1, v2, v3, v4, v5, v6, v7], _ =>
        have g0 := hfd 0 _ rfl
        have g1 := hfd 1 _ rfl
        have g2 := hfd 2 _ rfl
        have g3 := hfd 3 _ rfl
        have g4 := hfd 4 _ rfl
        have g5 := hfd 5 _ rfl
        have g6 := hfd 6 _ rfl
        have g7 := hfd 7 _ rfl
        simp [Tryz.cells3, Tryz.cells4, Tryz.cells9] at g0 g1 g2 g3 g4 g5 g6 g7
        obtain ⟨a0, e0, _, _⟩ := DataW.trod_int Tryz.underlying3 g0
        obtain ⟨a1, e1, _, w1⟩ := DataW.trod_int Tryz.underlying3 g1
        obtain ⟨a2, e2, _, _⟩ := DataW.trod_string Tryz.underlying9 g2
        obtain ⟨a3, e3, _, _⟩ := DataW.trod_string Tryz.underlying9 g3
        obtain ⟨a4, e4, _, w4⟩ := DataW.trod_int Tryz.underlying3 g4
        obtain ⟨a5, e5, _, _⟩ := DataW.trod_int Tryz.underlying3 g5
        obtain ⟨a6, e6, _, _⟩ := DataW.trod_int Tryz.underlying3 g6
        obtain ⟨a7, e7, _⟩ := DataW.trod_bool Tryz.underlying4 g7
        simp only [List.cons.injEq, and_true] at e0 e1 e2 e3 e4 e5 e6 e7
        subst e0 e1 e2 e3 e4 e5 e6 e7
        refine ⟨⟨a0, a1, a2, a3, a4, a5, a6, a7⟩, i64_of_wf w1, i64_of_wf w4, fun j u hj => ?_⟩
        have hj8 : j < 8 := by
          rcases Nat.lt_or_ge j 8 with h | h
          · exact h
          · rw [Array.getElem?_eq_none (by simpa using h)] at hj; cases hj
        have hc := hcell j (by omega)
        rw [Deep.add_add] at hc
        rw [hc]
        simpa using hj
    have hpick : ∃ f : Nat → OpV, ∀ i, i < m → i64 (f i).qu ∧ i64 (f i).n ∧ ∀ j u, (f i).cells[j]? = some u → W.cell? (a.add (i * 8 + j)) = some u := by
      haveI : Inhabited OpV := ⟨⟨0, 0, ⟨#[]⟩, ⟨#[]⟩, 0, 0, 0, false⟩⟩
      exact Deep.choose_lt each
    obtain ⟨f, hf2⟩ := hpick
    refine ⟨(List.range len).map f, by simp, fun k o hk => ?_, .inr ⟨_, _, (Prod.mk.inj hx).1, by simp⟩⟩
    have hkl : k < len := by
      have := (List.getElem?_eq_some_iff.1 hk).1
      simpa using this
    have ho : o = f k := by
      simp [hkl] at hk
      exact hk.symm
    subst ho
    obtain ⟨r1, r2, r3⟩ := hf2 k (by omega)
    refine ⟨r1, r2, ?_⟩
    have h1 := (hf2 0 (by omega)).2.2 0 _ rfl
    have hs : a.spot = none ∧ a.block < W.heap.size := by
      simp only [Nat.zero_mul, Nat.add_zero, Addr.add, if_true] at h1
      unfold World.cell? at h1
      split at h1
      · rename_i c e fz hb
        refine ⟨?_, ?_⟩
        · cases hsp : a.spot with
          | none => rfl
          | some _ => rw [hsp] at h1; simp at h1
        · rcases Nat.lt_or_ge a.block W.heap.size with hlt | hge
          · exact hlt
          · rw [Array.getElem?_eq_none hge] at hb; cases hb
      · cases h1
    obtain ⟨ab, aoff, asp⟩ := a
    obtain ⟨rfl, hb⟩ := hs
    refine ⟨ab, aoff, rfl, hb, fun j u hj => ?_⟩
    have := r3 j u hj
    rw [Addr.add_lit, ← Nat.add_assoc] at this
    exact this

end Go.Proofs.YtockkceclkcgbaaGreatDoor

/- What the two errors of package quay that stand in its variables are, when a call begins; a world in which they stand. -/
namespace Go.Proofs.YtockkceclkcgbaaGreatDoor
open Go.RowKit

def laidL : List (String × DataW Unit) := [("quay/quay.errCut", Rows.laid_quay_quay_errCut), ("quay/quay.errWrong", Rows.laid_quay_quay_errWrong)]
def cutB : ByteArray := ⟨#[116, 104, 101, 32, 116, 101, 120, 116, 32, 101, 110, 100, 115, 32, 119, 105, 116, 104, 105, 110, 32, 97, 32, 114, 101, 99, 111, 114, 100]⟩
def wrongB : ByteArray := ⟨#[116, 104, 101, 32, 116, 101, 120, 116, 32, 105, 115, 32, 110, 111, 32, 108, 111, 103]⟩
noncomputable def lowB : Nat := (World.holding Tryz.prog default ⟨#[], #[], []⟩).heap.size
noncomputable def laidWorld (os : Os) : World :=
  let w0 := World.holding Tryz.prog os ⟨#[.cells #[.string cutB] 279, .cells #[.string wrongB] 279], #[], []⟩
  { w0 with heap := (w0.heap.modify 0 fun
      | .cells _ t frozen => .cells #[.iface 257 (.pointer (some ⟨lowB, 0, none⟩))] t frozen
      | o => o).modify 1 fun
      | .cells _ t frozen => .cells #[.iface 257 (.pointer (some ⟨lowB + 1, 0, none⟩))] t frozen
      | o => o }
theorem laid_met (os : Os) (args : Array Value) : laidMet Tryz.prog laidL ((laidWorld os).forCall (fun _ _ => 0) ⟨#[], args, []⟩).memory :=
  laidMet_of_run (ps := [.cell 0 0, .cell lowB 0, .cell 1 0, .cell (lowB + 1) 0]) 8 (by kernel_rfl) (by kernel_rfl) (by kernel_rfl)
theorem laid_metH (os : Os) (args : Array Value) : laidMetH Tryz.prog laidL ((laidWorld os).forCall (fun _ _ => 0) ⟨#[], args, []⟩).memory :=
  laidMetH_of_parts (laid_met os args) (by kernel_rfl)

end Go.Proofs.YtockkceclkcgbaaGreatDoor

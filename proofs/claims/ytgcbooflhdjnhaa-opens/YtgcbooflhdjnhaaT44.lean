/- The contract of asked over the program's queue. -/
import Derived.Test.YtgcbooflhdjnhaaT43
namespace Go.Proofs.Ytgcbooflhdjnhaa
open Go.RowKit

/-- what is seen of a pair's document queue: it has gn groups -/
def Seen (w : World) (p gn : Nat) : Prop := ∃ yb ao cap, p < w.heap.size ∧ w.cell? ⟨p, 1, none⟩ = some (.pointer (some ⟨yb, 0, none⟩)) ∧ yb < w.heap.size ∧ w.cell? ⟨yb, 6, none⟩ = some (.slice ao gn cap) ∧ gn ≤ 6 ∧
    ∀ k, k < gn → ∃ gb nm, ao = some ⟨gb, 0, none⟩ ∧ gb < w.heap.size ∧ w.cell? ⟨gb, k * 4, none⟩ = some (.string nm)
theorem PairM.see {B : Int} {m : MQ} {w : World} {T : Nat → Tag} {i p : Nat} (h : PairM X B m w T i p) : Seen w p m.rq.groups.length := by
  obtain ⟨bx, yb, vs, lg, hB, hx, hy, hf⟩ := h
  obtain ⟨h1, h2, h3, vB, vG, vi, vd, hY, hR, hG, hI⟩ := hy
  obtain ⟨ao, cap, rfl⟩ := row_form hG
  refine ⟨yb, ao, cap, hB.lt, hB.cell (j := 1) rfl, hY.lt, hY.cell (j := 6) rfl, h2, fun k hk => ?_⟩
  obtain ⟨gb, gc, e⟩ := row_some hG (by omega)
  simp only [Value.slice.injEq] at e
  obtain ⟨rfl, _, _⟩ := e
  obtain ⟨g, hg⟩ : ∃ g, m.rq.groups[k]? = some g := ⟨_, List.getElem?_eq_getElem hk⟩
  exact ⟨gb, g.name, rfl, hG.lt, hG.cell (groupCells_at _ vi vd k g hg).1⟩

theorem toldW_done {B Bm : Int} (hX : XC X Bm) (hle : B ≤ Bm) (wb : Nat) (c d : Conf) (most : Int) (ps : List Nat) (q q' k p : Nat) (s : ByteArray) (m : MQ) (w : World) (T : Nat → Tag) (hw : WT X B w T wb c d most ps q q') (hk : ps[k]? = some p) (hm : PairM X B m w T k p) (hq : q ≤ 900000000) :
    Calls Try.prog 21 #[.pointer (some ⟨wb, 0, none⟩), .pointer (some ⟨p, 0, none⟩), .int .i64 9, .string s] w fun e w' => CallPost X B w T wb c d most ps q q' e w' ∧ Seen w' p m.rq.groups.length := by
  obtain ⟨⟨vP, vr, vd, h1, h2, h3, h4⟩, h5⟩ := hw
  refine (told_doneM hX hle k p wb _ vr q s m w T hm h1 rfl h3 hq).mono ?_
  rintro e w' ⟨rfl, T', vr', hs, hp', hW, hR⟩
  exact ⟨post_done hX (Int.le_refl _) h2 h4 h5 hk hs hp'.pair hW hR, hp'.see⟩
theorem toldW_dead {B Bm : Int} (hX : XC X Bm) (hle : B ≤ Bm) (wb : Nat) (c d : Conf) (most : Int) (ps : List Nat) (q q' k p : Nat) (s : ByteArray) (w : World) (T : Nat → Tag) (hw : WT X B w T wb c d most ps q q') (hk : ps[k]? = some p) (hq' : q' ≤ 900000000) :
    Calls Try.prog 21 #[.pointer (some ⟨wb, 0, none⟩), .pointer (some ⟨p, 0, none⟩), .int .i64 10, .string s] w (CallPost X B w T wb c d most ps q q') := by
  obtain ⟨⟨vP, vr, vd, h1, h2, h3, h4⟩, h5⟩ := hw
  refine (told_dead hX hle k p wb _ vd q' s w T (h5 k p hk) h1 rfl h4 hq').mono ?_
  rintro e w' ⟨rfl, T', vd', hs, hp', hW, hD⟩
  exact post_dead hX (Int.le_refl _) h2 h3 h5 hk hs hp' hW hD
theorem toldW_span {B Bm : Int} (hX : XC X Bm) (hle : B ≤ Bm) (wb : Nat) (c d : Conf) (most : Int) (ps : List Nat) (q q' k p : Nat) (s : ByteArray) (w : World) (T : Nat → Tag) (hw : WT X B w T wb c d most ps q q') (hk : ps[k]? = some p) :
    Calls Try.prog 21 #[.pointer (some ⟨wb, 0, none⟩), .pointer (some ⟨p, 0, none⟩), .int .i64 11, .string s] w (CallPost X B w T wb c d most ps q q') := by
  refine (told_spanT hX hle k p _ s w T (hw.prs k p hk)).mono ?_
  rintro e w' ⟨rfl, T', hs, hp'⟩
  exact post_queues hX (Int.le_refl _) hw hk (hs.mono (fun _ h => .inl h)) hp'

/-- what is seen of the law's world -/
theorem WT.see {B : Int} {w : World} {T : Nat → Tag} {wb : Nat} {c d : Conf} {most : Int} {ps : List Nat} {q q' : Nat} (h : WT X B w T wb c d most ps q q') : ∃ ao cap, wb < w.heap.size ∧ w.cell? ⟨wb, 8, none⟩ = some (.slice ao ps.length cap) ∧
    ∀ k p, ps[k]? = some p → ∃ gb, ao = some ⟨gb, 0, none⟩ ∧ gb < w.heap.size ∧ w.cell? ⟨gb, k, none⟩ = some (.pointer (some ⟨p, 0, none⟩)) := by
  obtain ⟨⟨vP, vr, vd, h1, h2, h3, h4⟩, h5⟩ := h
  obtain ⟨ao, cap, rfl⟩ := row_form h2
  refine ⟨ao, cap, h1.lt, h1.cell (j := 8) rfl, fun k p hk => ?_⟩
  have hlt := (List.getElem?_eq_some_iff.1 hk).1
  obtain ⟨gb, gc, e⟩ := row_some h2 (by omega)
  simp only [Value.slice.injEq] at e
  obtain ⟨rfl, _, _⟩ := e
  exact ⟨gb, rfl, h2.lt, h2.cell (by simp [hk, ptrV])⟩

theorem wholeW {B : Int} (wb : Nat) (c d : Conf) (most : Int) (ps : List Nat) (q q' : Nat) (w : World) (T : Nat → Tag) (hw : WT X B w T wb c d most ps q q') (hq : q ≤ 1000000000) (hq' : q' ≤ 1000000000) :
    Calls Try.prog 9 #[.pointer (some ⟨wb, 9, none⟩)] w fun e w' => e = .returned (.bool true) ∧ Below w.heap.size w w' := by
  obtain ⟨⟨vP, vr, vd, h1, h2, h3, h4⟩, h5⟩ := hw
  exact wholeT_any w T wb _ q q' vr vd h1 rfl rfl h3 h4 hq hq'

set_option maxRecDepth 100000 in
set_option maxHeartbeats 4000000 in
theorem asked_any {B Bm : Int} (hX : XC X Bm) (hle : B ≤ Bm) (wb : Nat) (c d : Conf) (most : Int) (ps : List Nat) (q q' : Nat) (w : World) (T : Nat → Tag) (hw : WT X B w T wb c d most ps q q') (hlen : ps.length ≤ 10000000) (hq : q ≤ 500000000) (hq' : q' ≤ 500000000) :
    Calls Try.prog 53 #[.pointer (some ⟨wb, 0, none⟩)] w fun e w' => e = .returned (.bool true) ∧ ∃ T', Step (fun t => t ≠ .old) w T w' T' := by
  go_enter Try.func53, Try.ntmps53
  go_wp2_with fail
  go_loopw [3] (fun x wr => ∃ (k : Nat) (T1 : Nat → Tag) (q1 q1' : Nat), k ≤ ps.length ∧ x = .int .i64 k ∧ Step (fun t => t ≠ .old) w T wr T1 ∧ WT X B wr T1 wb c d most ps q1 q1' ∧ q1 ≤ q + 26 * k ∧ q1' ≤ q' + 26 * k) (fun x _ => ps.length - (intOf x).toNat)
  case atStart => exact ⟨0, T, q, q', Nat.zero_le _, rfl, Step.refl _ _ _, hw, by omega, by omega⟩
  case round =>
    obtain ⟨k, T1, q1, q1', hk, rfl, hs1, hw1, g1, g1'⟩ := hrel
    clear hw
    obtain ⟨ao, cap, lw, c8, hrow⟩ := hw1.see
    by_cases hlt : k < ps.length
    · obtain ⟨p, hp⟩ : ∃ p, ps[k]? = some p := ⟨_, List.getElem?_eq_getElem hlt⟩
      obtain ⟨gb, rfl, lg, cp⟩ := hrow k p hp
      clear hrow
      go_wp2_with fail
      refine (toldW_span hX hle wb c d most ps q1 q1' k p _ _ T1 hw1 hp).mono ?_
      rintro e w2 ⟨rfl, T2, q2, q2', hs2, hw2, g2, g2'⟩
      replace hs2 := hs1.trans hs2
      clear hw1 hs1 c8 cp lw lg
      go_wp2_with fail
      go_loopw [5, 6] (fun o x wr => ∃ (j : Nat) (T3 : Nat → Tag) (q3 q3' : Nat), j ≤ 6 ∧ o = .bool true ∧ x = .int .i64 j ∧ Step (fun t => t ≠ .old) w T wr T3 ∧ WT X B wr T3 wb c d most ps q3 q3' ∧ q3 ≤ q + 26 * k + 2 + 4 * j ∧ q3' ≤ q' + 26 * k + 2 + 4 * j) (fun _ x _ => 6 - (intOf x).toNat)
      case atStart => exact ⟨0, T2, q2, q2', Nat.zero_le _, rfl, rfl, hs2, hw2, by omega, by omega⟩
      case round =>
        obtain ⟨j, T3, q3, q3', hj, rfl, rfl, hs3, hw3, g3, g3'⟩ := hrel
        clear hw2 hs2 g2 g2' g1 g1'
        obtain ⟨m, hm⟩ := pairM_of (hw3.prs k p hp)
        obtain ⟨yb, ao, cap, lp, p1, ly, y6, h6, hgr⟩ := hm.see
        have hld := toldW_done hX hle wb c d most ps q3 q3' k p
        have hm' := hm
        clear hm
        by_cases hjt : j < m.rq.groups.length
        · obtain ⟨hb, nm, rfl, lh, cn⟩ := hgr j hjt
          clear hgr
          replace hld := hld nm m _ T3 hw3 hp hm' (by omega)
          generalize m.rq.groups.length = gn at *
          go_wp2_with fail
          refine hld.mono ?_
          rintro e w4 ⟨⟨rfl, T4, q4, q4', hs4, hw4, g4, g4'⟩, yb4, ao4, cap4, lp4, p4, ly4, y4, _, hgr4⟩
          obtain ⟨hb4, nm4, rfl, lh4, cn4⟩ := hgr4 j hjt
          clear hld hw3 lp p1 ly y6 lh cn hgr4
          go_wp2_with fail
          refine (toldW_dead hX hle wb c d most ps q4 q4' k p nm4 _ T4 hw4 hp (by omega)).mono ?_
          rintro e w5 ⟨rfl, T5, q5, q5', hs5, hw5, g5, g5'⟩
          clear lp4 p4 ly4 y4 lh4 cn4 hw4
          go_wp2
          refine ⟨⟨j + 1, T5, q5, q5', by omega, by first | rfl | simp, by simp, (hs3.trans hs4).trans hs5, hw5, by omega, by omega⟩, by simp [intOf]; omega⟩
        · clear hgr hld hm'
          generalize m.rq.groups.length = gn at *
          go_wp2
          refine ⟨⟨k + 1, T3, q3, q3', by omega, by simp, hs3, hw3, by omega, by omega⟩, by simp [intOf]; omega⟩
    · clear hrow
      go_wp2_with fail
      refine (wholeW wb c d most ps q1 q1' _ T1 hw1 (by omega) (by omega)).mono ?_
      rintro e w2 ⟨rfl, hb2⟩
      go_wp2
      go_ret
      exact ⟨by first | rfl | simp, T1, hs1.trans (step_below _ T1 hb2)⟩

end Go.Proofs.Ytgcbooflhdjnhaa

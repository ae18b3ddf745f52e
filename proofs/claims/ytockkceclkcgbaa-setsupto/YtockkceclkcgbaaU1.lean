/- The walk of the law Union. -/
import Derived.Test.YtockkceclkcgbaaW5
import Derived.Test.YtockkceclkcgbaaM1
namespace Go.Proofs.Ytockkceclkcgbaa
open Go.RowKit

attribute [local go_sem] over_cell

/-- A list of ranges that came in: its cells, and that its numbers are Go's own. -/
def ArgL (w : World) (ao : Option Addr) (ls : RL) : Prop := ∀ k, k < ls.length → ∃ b off, ao = some ⟨b, off, none⟩ ∧ b < w.heap.size ∧ w.cell? ⟨b, off + k * 2, none⟩ = some (.int .i64 (lo ls k)) ∧ w.cell? ⟨b, off + k * 2 + 1, none⟩ = some (.int .i64 (hi ls k))
def ArgW (ls : RL) : Prop := ∀ k, k < ls.length → -9223372036854775808 ≤ lo ls k ∧ lo ls k ≤ 9223372036854775807 ∧ -9223372036854775808 ≤ hi ls k ∧ hi ls k ≤ 9223372036854775807

/-- A list of ranges as a value: nil, or a row of cells. -/
def ValP (w : World) (v : Value) (L : RL) : Prop := (L = [] ∧ v = .slice none 0 0) ∨ ∃ g off cap, v = .slice (some ⟨g, off, none⟩) L.length cap ∧ L.length ≤ cap ∧ Cells w g off L

theorem add_val (L : RL) (a b : Int) (v : Value) (w : World) (hv : ValP w v L) (hs : setB L = true) (hr : isR a b = true) :
    Calls Try.prog 14 #[v, .agg #[.int .i64 a, .int .i64 b]] w fun e w' => ∃ g cap,
      e = .returned (.tuple #[.slice (some ⟨g, 0, none⟩) (addTo L a b).length cap, .int .i64 0]) ∧ (addTo L a b).length ≤ cap ∧ w.heap.size ≤ g ∧ Cells w' g 0 (addTo L a b) ∧ Below w.heap.size w w' := by
  rcases hv with ⟨rfl, rfl⟩ | ⟨g, off, cap, rfl, hcap, hc⟩
  · refine (add_nil a b w hr).mono ?_
    rintro e w' ⟨g, rfl, hown, hb⟩
    exact ⟨g, 1, rfl, Nat.le_refl _, (hown.lt g rfl).1, cells_of_own hown, hb⟩
  · have hl := setB_len hs
    refine (add_yes L a b g off cap w hc (by omega) hcap hs hr).mono ?_
    rintro e w' ⟨g', rfl, hown, hb⟩
    refine ⟨g', L.length + 1, rfl, ?_, (hown.lt g' rfl).1, cells_of_own hown, hb⟩
    rcases hown.2 with h | ⟨g2, cap2, cur, h1, _, _, h2, _⟩
    · cases h.1
    · cases h1; exact h2

/-- A row of 64 bools of the call's own. -/
def InRow (w : World) (B : Nat) (F : Nat → Bool) : Prop := B < w.heap.size ∧ ∀ i, i < 64 → w.cell? ⟨B, i, none⟩ = some (.bool (F i)) ∧ w.frozen? ⟨B, i, none⟩ = false

theorem InRow.on {w w' : World} {B : Nat} {F : Nat → Bool} (h : InRow w B F) (hb : Below w.heap.size w w') : InRow w' B F :=
  ⟨Nat.lt_of_lt_of_le h.1 hb.size, fun i hi => by rw [hb.cell (p := ⟨B, i, none⟩) h.1, hb.frozen (p := ⟨B, i, none⟩) h.1]; exact h.2 i hi⟩

theorem inRow_start (w : World) (cs : Array Value) (h : cs = Array.replicate 64 (.bool false)) : InRow (w.alloc (.cells cs 43)) w.heap.size (fun _ => false) := by
  have hb : (w.alloc (.cells cs 43)).heap[w.heap.size]? = some (.cells cs 43 (0, 0)) := heap_alloc_new w _
  refine ⟨by simp, ?_⟩
  generalize w.alloc (.cells cs 43) = w' at *
  subst h
  intro i hi
  constructor
  · simp [World.cell?, hb, hi]
  · simp [World.frozen?, hb]

theorem InRow.set {w : World} {B : Nat} {F : Nat → Bool} (h : InRow w B F) (n : Nat) (hn : n < 64) : InRow (w.setCell ⟨B, n, none⟩ (.bool true)) B (fun i => F i || i == n) := by
  refine ⟨by simpa [World.setCell] using h.1, fun i hi => ?_⟩
  constructor
  · by_cases e : i = n
    · subst e
      rw [World.cell?_setCell_same (h := (h.2 i hi).1)]; simp
    · rw [World.cell?_setCell_other (h := fun hx => by injection hx with _ hx2; exact e hx2.symm), (h.2 i hi).1]; simp [e]
  · rw [World.frozen?_setCell]; exact (h.2 i hi).2

structure UInv (w wr : World) (v : Value) (L : RL) : Prop where
  bel : Below w.heap.size w wr
  row : InRow wr w.heap.size (fun i => hasB L i)
  set : setB L = true
  small : ∀ n, hasB L n = true → 0 ≤ n ∧ n ≤ 61
  val : ValP wr v L

/-- What stands in memory while a round of Union looks at the new set. -/
structure U2 (w wx : World) (rb g : Nat) (L : RL) (p h : Int) (F : Nat → Bool) : Prop where
  bel : Below w.heap.size w wx
  row : InRow wx w.heap.size F
  lt0 : w.heap.size < rb
  lt1 : rb < wx.heap.size
  lt2 : w.heap.size < g
  c0 : wx.cell? ⟨rb, 0, none⟩ = some (.int .i64 p)
  c1 : wx.cell? ⟨rb, 1, none⟩ = some (.int .i64 h)
  cs : Cells wx g 0 L

theorem U2.on {w wx wy : World} {rb g : Nat} {L : RL} {p h : Int} {F : Nat → Bool} (u : U2 w wx rb g L p h F) (hb : Below wx.heap.size wx wy) : U2 w wy rb g L p h F :=
  ⟨u.bel.trans (hb.mono u.bel.size), u.row.on hb, u.lt0, Nat.lt_of_lt_of_le u.lt1 hb.size, u.lt2, (hb.cell (p := ⟨rb, 0, none⟩) u.lt1).trans u.c0, (hb.cell (p := ⟨rb, 1, none⟩) u.lt1).trans u.c1, u.cs.below hb u.cs.1⟩

theorem U2.set {w wx : World} {rb g : Nat} {L : RL} {p h : Int} {F : Nat → Bool} (u : U2 w wx rb g L p h F) (n : Nat) (hn : n < 64) :
    U2 w (wx.setCell ⟨w.heap.size, n, none⟩ (.bool true)) rb g L p h (fun i => F i || i == n) := by
  have hc : ∀ b o, b ≠ w.heap.size → (wx.setCell ⟨w.heap.size, n, none⟩ (.bool true)).cell? ⟨b, o, none⟩ = wx.cell? ⟨b, o, none⟩ := fun b o hne =>
    World.cell?_of_block (Below.heap_setCell wx ⟨w.heap.size, n, none⟩ _ b hne)
  have hz : (wx.setCell ⟨w.heap.size, n, none⟩ (.bool true)).heap.size = wx.heap.size := by simp [World.setCell]
  have h0 := u.lt0
  have h2 := u.lt2
  exact ⟨u.bel.setCell (Nat.le_refl _) _, u.row.set n hn, u.lt0, by rw [hz]; exact u.lt1, u.lt2, by rw [hc _ _ (by omega)]; exact u.c0, by rw [hc _ _ (by omega)]; exact u.c1,
    by rw [hz]; exact u.cs.1, fun i hi => by rw [hc _ _ (by omega), hc _ _ (by omega)]; exact u.cs.2 i hi⟩

theorem U2.turn {w wx : World} {rb g : Nat} {L : RL} {p h : Int} {F F' : Nat → Bool} (u : U2 w wx rb g L p h F) (hF : ∀ i, F' i = F i) : U2 w wx rb g L p h F' := by
  have : F' = F := funext hF
  rw [this]; exact u

set_option maxHeartbeats 1000000 in
set_option maxRecDepth 100000 in
theorem union_any (ls : RL) (ao : Option Addr) (cap : Nat) (w : World) (hlen : ls.length ≤ 9223372036854775807)
    (hl : ArgL w ao ls) (hwf : ArgW ls) :
    Calls Try.prog 4 #[.slice ao ls.length cap] w fun e w' => e = .returned (.bool true) ∧ Below w.heap.size w w' := by
  go_enter Try.func4, Try.ntmps4
  go_wp2_with fail
  refine (add_nil 3 5 _ rfl).mono ?_
  rintro e w1 ⟨g, rfl, hown, hb1⟩
  have hI : InRow w1 w.heap.size (fun _ => false) := InRow.on (inRow_start w _ (by rfl)) hb1
  have hw1 : Below w.heap.size w w1 := ((Below.refl _ _).alloc (Nat.le_refl _) _).trans (hb1.mono (by simp))
  have hcc := (cells_of_own (L := [(3, 5)]) hown).2 0 (by simp)
  have hc0 : w1.cell? ⟨g, 0, none⟩ = some (.int .i64 3) := hcc.1
  have hc1 : w1.cell? ⟨g, 1, none⟩ = some (.int .i64 5) := hcc.2
  clear hcc hb1 hown
  go_wp2_with fail
  go_loopw [3, 7] (fun v i wr => ∃ (k : Nat) (L : RL), k ≤ ls.length ∧ i = .int .i64 k ∧ UInv w wr v L) (fun _ i _ => ls.length - (intOf i).toNat)
  case atStart => exact ⟨0, [], Nat.zero_le _, rfl, hw1, hI, rfl, fun n h => (by cases h), .inl ⟨rfl, rfl⟩⟩
  case round =>
    clear hI hw1 hc0 hc1
    obtain ⟨k, L, hk, rfl, hU⟩ := hrel
    by_cases hlt : k < ls.length
    · obtain ⟨b, off, rfl, hbl, q0, q1⟩ := hl k hlt
      obtain ⟨b0, b1, b2, b3⟩ := hwf k hlt
      have hbB := hU.bel.size
      have r0 := (hU.bel.cell (p := ⟨b, off + k * 2, none⟩) hbl).trans q0
      have r1 := (hU.bel.cell (p := ⟨b, off + k * 2 + 1, none⟩) hbl).trans q1
      clear q0 q1
      go_wp2_with fail
      refine (pick_any _ 60 _ b0 b1 (by omega) (by omega)).mono ?_
      rintro e w9 ⟨rfl, h9⟩
      rw [h9]
      clear h9 w9
      have hp := pickI_range (lo ls k) 60 (by omega)
      generalize pickI (lo ls k) 60 = p at *
      go_wp2_with fail
      refine (pick_any _ (62 - p) _ b2 b3 (by omega) (by omega)).mono ?_
      rintro e w9 ⟨rfl, h9⟩
      rw [h9]
      clear h9 w9
      have hq := pickI_range (hi ls k) (62 - p) (by omega)
      generalize pickI (hi ls k) (62 - p) = q at *
      have hr : isR p (p + q) = true := by simp [isR]; omega
      clear r0 r1 b0 b1 b2 b3
      go_wp2_with fail
      have hba := (Below.refl wr.heap.size wr).alloc (Nat.le_refl _) (.cells #[.int .i64 p, .int .i64 (p + q)] 31)
      have hv2 : ValP (wr.alloc (.cells #[.int .i64 p, .int .i64 (p + q)] 31)) u3 L := by
        rcases hU.val with h | ⟨g, o, c, h1, h2, h3⟩
        · exact .inl h
        · exact .inr ⟨g, o, c, h1, h2, h3.below hba h3.1⟩
      refine (add_val L p (p + q) u3 _ hv2 hU.set hr).mono ?_
      rintro e w3 ⟨g3, cap3, rfl, hcap3, hg3, hc3, hb3⟩
      have hset2 := addTo_setB hU.set hr
      have hhas : ∀ n : Int, hasB (addTo L p (p + q)) n = (hasB L n || withinB p (p + q) n) := fun n => addTo_has n hU.set hr
      have hne := add_ne L p (p + q)
      have u0 : U2 w w3 wr.heap.size g3 (addTo L p (p + q)) p (p + q) (fun i => hasB L i || decide (p ≤ i ∧ i < p)) := by
        have hz : (wr.alloc (.cells #[.int .i64 p, .int .i64 (p + q)] 31)).heap.size = wr.heap.size + 1 := by simp
        have hr1 : w.heap.size < wr.heap.size := hU.row.1
        have hbox : (wr.alloc (.cells #[.int .i64 p, .int .i64 (p + q)] 31)).heap[wr.heap.size]? = some (.cells #[.int .i64 p, .int .i64 (p + q)] 31 (0, 0)) := heap_alloc_new wr _
        refine ⟨(hU.bel.alloc hU.bel.size _).trans (hb3.mono (by omega)), ?_, hr1, by have := hb3.size; omega, by omega, ?_, ?_, hc3⟩
        · have e : (fun i : Nat => hasB L i || decide (p ≤ (i : Int) ∧ (i : Int) < p)) = fun i : Nat => hasB L i := by
            funext i; have : ¬ (p ≤ (i : Int) ∧ (i : Int) < p) := by omega
            simp [this]
          rw [e]
          exact (hU.row.on hba).on hb3
        · rw [hb3.cell (p := ⟨wr.heap.size, 0, none⟩) (by simp)]
          simp
        · rw [hb3.cell (p := ⟨wr.heap.size, 1, none⟩) (by simp)]
          simp
      have hsm : ∀ n : Int, hasB (addTo L p (p + q)) n = true → 0 ≤ n ∧ n ≤ 61 := by
        intro n hn
        rw [hhas n, Bool.or_eq_true] at hn
        rcases hn with hn | hn
        · exact hU.small n hn
        · simp [withinB] at hn; omega
      have Hset : Hid (setB (addTo L p (p + q)) = true) := hset2
      have Hhas : Hid (∀ n : Int, hasB (addTo L p (p + q)) n = (hasB L n || withinB p (p + q) n)) := hhas
      have Hsm : Hid (∀ n : Int, hasB (addTo L p (p + q)) n = true → 0 ≤ n ∧ n ≤ 61) := hsm
      clear hset2 hhas hsm hb3 hc3 hv2 hba hU hg3
      generalize addTo L p (p + q) = L2 at *
      generalize wr.heap.size = rb at *
      clear wr
      have hz0 : ((L2.length : Int) == 0) = false := beq_eq_false_iff_ne.2 (by omega)
      have hz1 := u0.c0
      have hz2 := u0.c1
      go_wp2_with fail
      go_loopw [12] (fun i wx => ∃ m : Int, p ≤ m ∧ m ≤ p + q + 1 ∧ i = .int .i64 m ∧ U2 w wx rb g3 L2 p (p + q) (fun i => hasB L i || decide (p ≤ i ∧ i < m))) (fun i _ => (p + q + 1 - intOf i).toNat)
      case atStart => exact ⟨p, by omega, by omega, rfl, u0⟩
      case round =>
        clear hz1 hz2 u0 w3 hz0
        obtain ⟨m, hm0, hm1, rfl, u⟩ := hrel
        have hz1 := u.c1
        by_cases hle : m ≤ p + q
        · obtain ⟨n, rfl⟩ := Int.eq_ofNat_of_zero_le (show 0 ≤ m by omega)
          have hc := (u.row.2 n (by omega)).1
          have hf := (u.row.2 n (by omega)).2
          go_wp2
          go_roundw
          case rel =>
            refine ⟨(n : Int) + 1, by omega, by omega, rfl, (u.set n (by omega)).turn fun i => ?_⟩
            have : decide (p ≤ (i : Int) ∧ (i : Int) < (n : Int) + 1) = (decide (p ≤ (i : Int) ∧ (i : Int) < (n : Int)) || i == n) := by
              rw [Bool.eq_iff_iff]; simp; omega
            rw [this, Bool.or_assoc]
          case measure => simp [intOf]; omega
        · have u1 : U2 w wr rb g3 L2 p (p + q) (fun i => hasB L2 i) := u.turn fun i => by
            have hme : m = p + q + 1 := by omega
            rw [Hhas.out i]
            congr 1
            rw [Bool.eq_iff_iff]; simp [withinB]; omega
          clear u
          go_wp2_with fail
          go_loopw [13] (fun i wx => ∃ m : Nat, 1 ≤ m ∧ m ≤ L2.length ∧ i = .int .i64 m ∧ U2 w wx rb g3 L2 p (p + q) (fun i => hasB L2 i)) (fun i _ => L2.length - (intOf i).toNat)
          case atStart => exact ⟨1, Nat.le_refl _, by omega, rfl, u1⟩
          case round =>
            clear u1 hz1 hm0 hm1 hle
            obtain ⟨m2, hm0, hm1, rfl, u⟩ := hrel
            have hcs := u.cs.2
            have hg := u.cs.1
            have hll := setB_len Hset.out
            by_cases hlt2 : m2 < L2.length
            · have g1 := (good_of_setR L2 (-1) ((setB_setR L2).1 Hset.out)).1 m2 hlt2
              have g0 := (good_of_setR L2 (-1) ((setB_setR L2).1 Hset.out)).1 (m2 - 1) (by omega)
              have g2 := set_gap Hset.out (m2 - 1) m2 (by omega) hlt2
              have t0 := (hcs m2 hlt2).1
              have t1 := (hcs m2 hlt2).2
              have t2 := (hcs (m2 - 1) (by omega)).2
              simp only [Nat.zero_add] at t0 t1 t2
              have gd : decide (lo L2 m2 ≤ hi L2 (m2 - 1) + 1) = false := by simp; omega
              clear hcs
              go_wp2_with fail
              refine wp_region_over (by kernel_rfl) (by kernel_rfl) ?_
              repeat (go_big_quiet_step (fail))
              refine wpQuiet_nil ?_
              rintro _ ⟨x, rfl⟩
              have u2 := u.on (over_below wr x)
              go_wp2
              go_roundw
              case rel => exact ⟨m2 + 1, by omega, by omega, by go_num, u2⟩
              case measure => simp [intOf]; omega
            · clear hcs
              go_wp2_with fail
              go_loopw [14] (fun i wx => ∃ n : Nat, n ≤ 63 ∧ i = .int .i64 n ∧ U2 w wx rb g3 L2 p (p + q) (fun i => hasB L2 i)) (fun i _ => 63 - (intOf i).toNat)
              case atStart => exact ⟨0, by omega, rfl, u⟩
              case round =>
                clear u hlt2 hm0 hm1 hg
                obtain ⟨n, hn, rfl, u⟩ := hrel
                by_cases hn2 : n < 63
                · go_wp2_with fail
                  refine (has_cells L2 n g3 0 cap3 _ u.cs (by omega)).mono ?_
                  rintro e w5 ⟨rfl, hb5⟩
                  have u5 := u.on hb5
                  clear u hb5
                  rw [Hset.out, Bool.true_and]
                  go_wp2_with fail
                  refine (gap_cells L2 n g3 0 cap3 _ u5.cs (by omega)).mono ?_
                  rintro e w6 ⟨rfl, hb6⟩
                  have u6 := u5.on hb6
                  clear u5 hb6
                  have hfr : fromOk n = true := by simp [fromOk]; omega
                  have hgs := gap_spec Hset.out n
                  rw [gapV_yes (by rw [Hset.out, hfr]; rfl), Hset.out, hfr]
                  obtain ⟨G, hG⟩ := Int.eq_ofNat_of_zero_le (show 0 ≤ gapI L2 n by omega)
                  rw [hG] at hgs ⊢
                  obtain ⟨hg0, hg1, hg2⟩ := hgs
                  have hG2 : G ≤ 62 := by
                    rcases Nat.lt_or_ge n G with h | h
                    · have := Hsm.out ((G : Int) - 1) (hg2 _ (by omega) (by omega)); omega
                    · omega
                  have Hg1 : Hid (hasB L2 G = false) := hg1
                  have Hg2 : Hid (∀ m : Int, (n : Int) ≤ m → m < (G : Int) → hasB L2 m = true) := hg2
                  clear hG hg1 hg2 hfr
                  go_wp2_with fail
                  go_loop [19] (fun v => ∃ c : Nat, n ≤ c ∧ c ≤ G ∧ v = .int .i64 c) (fun v => G - (intOf v).toNat)
                  case atStart => exact ⟨n, Nat.le_refl _, by omega, rfl⟩
                  case round =>
                    obtain ⟨c, hc0, hc1, rfl⟩ := hrel
                    have hcell := (u6.row.2 c (by omega)).1
                    by_cases hcg : c < G
                    · have hh := Hg2.out c (by omega) (by omega)
                      go_wp2
                      go_round
                      case rel => exact ⟨c + 1, by omega, by omega, by go_num⟩
                      case measure => simp [intOf]; omega
                    · have hcG : c = G := by omega
                      subst hcG
                      have hh := Hg1.out
                      have hce := (u6.row.2 n (by omega)).1
                      go_wp2
                      go_roundw
                      case rel => exact ⟨n + 1, by omega, by go_num, u6⟩
                      case measure => simp [intOf]; omega
                · go_wp2
                  go_roundw
                  case rel => exact ⟨k + 1, L2, by omega, by go_num, u.bel, u.row, Hset.out, Hsm.out, .inr ⟨g3, 0, cap3, rfl, hcap3, u.cs⟩⟩
                  case measure => simp [intOf]; omega
    · go_wp2
      go_ret
      exact ⟨rfl, hU.bel⟩

end Go.Proofs.Ytockkceclkcgbaa

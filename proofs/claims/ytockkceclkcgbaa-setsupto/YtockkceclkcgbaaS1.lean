/- The walk of the law Sets. -/
import Derived.Test.YtockkceclkcgbaaA2
namespace Go.Proofs.Ytockkceclkcgbaa
open Go.RowKit

attribute [local go_sem] over_cell

/-- A list of numbers that came in. -/
def ArgN (w : World) (no : Option Addr) (ns : List Int) : Prop := ∀ k, k < ns.length → ∃ b off, no = some ⟨b, off, none⟩ ∧ b < w.heap.size ∧ w.cell? ⟨b, off + k, none⟩ = some (.int .i64 (ns.getD k 0))

structure SI (w wr : World) (bk N : Nat) (K : Nat → Prop) (ro : Option Addr) (rc : Nat) (vs : List Value) (S : RL) (so : Option Addr) : Prop where
  book : BookI wr bk K N ro rc vs
  newK : ∀ b, K b → w.heap.size ≤ b
  bel : Below w.heap.size w wr
  arg : ArgL wr so S
  wf : ArgW S
  len : S.length ≤ 549755813889
  sK : ∀ b, 0 < S.length → blk so b → ¬ K b

theorem SI.on {w wr wx : World} {bk N : Nat} {K : Nat → Prop} {ro : Option Addr} {rc : Nat} {vs : List Value} {S : RL} {so : Option Addr} (h : SI w wr bk N K ro rc vs S so) (hb : Below wr.heap.size wr wx) : SI w wx bk N K ro rc vs S so :=
  ⟨h.book.on hb, h.newK, h.bel.trans (hb.mono h.bel.size), h.arg.below hb, h.wf, h.len, h.sK⟩

theorem SI.added {w wr wx : World} {bk N N' : Nat} {K K' : Nat → Prop} {ro ro' : Option Addr} {rc rc' : Nat} {vs vs' : List Value} {S : RL} {so : Option Addr} (h : SI w wr bk N K ro rc vs S so)
    (hB : BookI wx bk K' N' ro' rc' vs') (hK : ∀ b, K' b → K b ∨ wr.heap.size ≤ b) (hk : Kept K wr wx) : SI w wx bk N' K' ro' rc' vs' S so := by
  have hs := h.bel.size
  refine ⟨hB, fun b hb => ?_, h.bel.trans (hk.below h.newK hs), h.arg.kept hk h.sK, h.wf, h.len, fun b h0 hb hx => ?_⟩
  · rcases hK b hb with h1 | h1
    · exact h.newK b h1
    · omega
  · rcases hK b hx with h1 | h1
    · exact h.sK b h0 hb h1
    · obtain ⟨b', off, e, hlt, _⟩ := h.arg 0 h0
      obtain ⟨o, e2⟩ := hb
      rw [e] at e2; cases e2; omega

theorem argW_set {S : RL} (h : setB S = true) : ArgW S := fun k hk => by
  have := isR_hi (goodAt_isR ((setB_iff S).1 h k hk)); omega

theorem SI.turn {w wr wx : World} {bk N : Nat} {K : Nat → Prop} {ro : Option Addr} {rc : Nat} {vs : List Value} {S S2 : RL} {so so2 : Option Addr} {c : Nat} (h : SI w wr bk N K ro rc vs S so) (hb : Below wr.heap.size wr wx)
    (ho : OwnL wx wr.heap.size S2 so2 c) (hs : setB S2 = true) : SI w wx bk N K ro rc vs S2 so2 :=
  ⟨h.book.on hb, h.newK, h.bel.trans (hb.mono h.bel.size), ho.arg, argW_set hs, setB_len hs, fun b _ hb2 hx => by have h1 := h.book.klt b hx; have h2 := (ho.blk hb2).1; omega⟩

/-- The book, as it is made. -/
theorem book_start (w : World) (o : Obj) : BookI ((w.alloc (.cells #[.slice none 0 0, .slice none 0 0] 28)).alloc o) w.heap.size (fun b => b = w.heap.size) (4 * 0) none 0 [] := by
  have hb : ((w.alloc (.cells #[.slice none 0 0, .slice none 0 0] 28)).alloc o).heap[w.heap.size]? = some (.cells #[.slice none 0 0, .slice none 0 0] 28 (0, 0)) := by
    rw [Below.heap_alloc _ _ _ (by simp)]; exact heap_alloc_new w _
  refine ⟨hb, World.ownsRow_nil _ _ _ _, rfl, fun g e => by simp [Value.ownBlock] at e, fun b hb => ?_, fun i v hv => by simp at hv⟩
  subst hb; simp; omega

theorem known_cells (w : World) (o : Obj) : ArgL ((w.alloc o).alloc (.cells #[.int .i64 0, .int .i64 1, .int .i64 4, .int .i64 4] 31)) (some ⟨w.heap.size + 1, 0, none⟩) [(0, 1), (4, 4)] := by
  have hb : ((w.alloc o).alloc (.cells #[.int .i64 0, .int .i64 1, .int .i64 4, .int .i64 4] 31)).heap[w.heap.size + 1]? = some (.cells #[.int .i64 0, .int .i64 1, .int .i64 4, .int .i64 4] 31 (0, 0)) := by
    have := heap_alloc_new (w.alloc o) (.cells #[.int .i64 0, .int .i64 1, .int .i64 4, .int .i64 4] 31)
    simpa using this
  have hlt : w.heap.size + 1 < ((w.alloc o).alloc (.cells #[.int .i64 0, .int .i64 1, .int .i64 4, .int .i64 4] 31)).heap.size := by simp
  generalize (w.alloc o).alloc (.cells #[.int .i64 0, .int .i64 1, .int .i64 4, .int .i64 4] 31) = w' at *
  intro k hk
  refine ⟨_, _, rfl, hlt, ?_⟩
  match k, hk with
  | 0, _ => exact ⟨by simp [World.cell?, hb, lo], by simp [World.cell?, hb, hi]⟩
  | 1, _ => exact ⟨by simp [World.cell?, hb, lo], by simp [World.cell?, hb, hi]⟩

theorem ArgN.below {w w' : World} {no : Option Addr} {ns : List Int} (h : ArgN w no ns) (hb : Below w.heap.size w w') : ArgN w' no ns := fun k hk => by
  obtain ⟨b, off, e, hlt, h0⟩ := h k hk
  exact ⟨b, off, e, Nat.lt_of_lt_of_le hlt hb.size, (hb.cell (p := ⟨b, off + k, none⟩) hlt).trans h0⟩

theorem row_arg {w : World} {B g : Nat} {M : RL} (h : RowIs w B g (marks M)) : Cells w g 0 M := by
  have hcs := h.cells
  exact ⟨hcs.1, fun i hi => by
    have := hcs.2 i (by rw [marks_length]; omega)
    rw [lo_marks M i hi, hi_marks M i hi] at this; exact this⟩

theorem added_at (w : World) (bk q N : Nat) (K : Nat → Prop) (ro : Option Addr) (rc : Nat) (vs : List Value) (L : RL) (n : Nat) (hn : L.length = n) (ao : Option Addr) (cap : Nat) (a b : Int) (hN : N = 4 * q)
    (hB : BookI w bk K N ro rc vs) (hl : ArgL w ao L) (hw : ArgW L) (hK : ∀ b, 0 < L.length → blk ao b → ¬ K b) (hlen : n ≤ 549755813889) (hq : q ≤ 900000000) :
    Calls Try.prog 5 #[.pointer (some ⟨bk, 0, none⟩), .slice ao n cap, .agg #[.int .i64 a, .int .i64 b]] w fun e w' => e = .returned (.bool true) ∧
      ∃ K' ro' rc' vs', BookI w' bk K' (4 * (q + 3)) ro' rc' vs' ∧ (∀ b, K' b → K b ∨ w.heap.size ≤ b) ∧ Kept K w w' := by
  subst hn; subst hN; exact added_any w bk q K ro rc vs L ao cap a b hB hl hw hK hlen hq

set_option maxHeartbeats 4000000 in
set_option maxRecDepth 100000 in
theorem sets_any (L Rs : RL) (ns : List Int) (ao mo no : Option Addr) (cap mcap ncap : Nat) (w : World) (hl : ArgL w ao L) (hw : ArgW L) (hm : ArgL w mo Rs) (hn : ArgN w no ns) (h1 : L.length ≤ 1048576) (h2 : Rs.length ≤ 1048576) (h3 : ns.length ≤ 1048576) :
    Calls Try.prog 3 #[.slice ao L.length cap, .slice mo Rs.length mcap, .slice no ns.length ncap] w fun e w' => e = .returned (.bool true) ∧ Below w.heap.size w w' := by
  go_enter Try.func3, Try.ntmps3
  go_wp2_with fail
  have hbw : Below w.heap.size w ((w.alloc (.cells #[.slice none 0 0, .slice none 0 0] 28)).alloc (.cells #[.int .i64 0, .int .i64 1, .int .i64 4, .int .i64 4] 31)) := ((Below.refl _ _).alloc (Nat.le_refl _) _).alloc (by simp) _
  refine (added_at _ w.heap.size 0 (4 * 0) (fun b => b = w.heap.size) none 0 [] [(0, 1), (4, 4)] 2 rfl (some ⟨w.heap.size + 1, 0, none⟩) 2 2 3 rfl (book_start w _) (known_cells w _) (argW_set rfl) (fun b _ hb e => by obtain ⟨o, e2⟩ := hb; cases e2; omega) (by omega) (by omega)).mono ?_
  rintro e w1 ⟨rfl, K1, ro1, rc1, vs1, hB1, hK1, hk1⟩
  have hI1 : SI w w1 w.heap.size (4 * (0 + 3)) K1 ro1 rc1 vs1 L ao := by
    have hz : ((w.alloc (.cells #[.slice none 0 0, .slice none 0 0] 28)).alloc (.cells #[.int .i64 0, .int .i64 1, .int .i64 4, .int .i64 4] 31)).heap.size = w.heap.size + 2 := by simp
    have hbel : Below w.heap.size w w1 := hbw.trans (hk1.below (fun i hi => by omega) (by omega))
    refine ⟨hB1, fun b hb => ?_, hbel, hl.below hbel, hw, by omega, fun b h0 hb hx => ?_⟩
    · rcases hK1 b hb with h | h <;> omega
    · obtain ⟨b', off, e, hlt, _⟩ := hl 0 h0
      obtain ⟨o, e2⟩ := hb
      rw [e] at e2; cases e2
      rcases hK1 b hx with h | h <;> omega
  clear hbw hB1 hK1 hk1
  generalize hbk : w.heap.size = bk at *
  have Hbk := hide hbk
  clear hbk
  go_wp2_with fail
  go_loopw [9, 10] (fun v i wr => ∃ (k : Nat) (S : RL) (so : Option Addr) (sc : Nat) (K : Nat → Prop) (ro : Option Addr) (rc : Nat) (vs : List Value), k ≤ Rs.length ∧ i = .int .i64 k ∧ v = .slice so S.length sc ∧ SI w wr bk (4 * (3 * k + 3)) K ro rc vs S so) (fun _ i _ => Rs.length - (intOf i).toNat)
  case atStart => exact ⟨0, L, ao, cap, K1, ro1, rc1, vs1, Nat.zero_le _, rfl, rfl, hI1⟩
  case round =>
    clear hI1
    obtain ⟨k, S, so, sc, K, ro, rc, vs, hk, rfl, rfl, hI⟩ := hrel
    by_cases hlt : k < Rs.length
    · have hm2 := hm.below hI.bel
      obtain ⟨mb, moff, rfl, hmb, c0, c1⟩ := hm2 k hlt
      clear hm2
      go_wp2_with fail
      refine (added_at wr bk (3 * k + 3) _ K ro rc vs S _ rfl so sc _ _ rfl hI.book hI.arg hI.wf hI.sK hI.len (by omega)).mono ?_
      rintro e w2 ⟨rfl, K2, ro2, rc2, vs2, hB2, hK2, hk2⟩
      have hI2 := hI.added hB2 hK2 hk2
      clear hI hB2 hK2 hk2 c0 c1
      go_wp2_with fail
      refine (whole_any _ bk _ K2 ro2 rc2 vs2 hI2.book (by omega)).mono ?_
      rintro e w3 ⟨rfl, hb3⟩
      have hI3 := hI2.on hb3
      clear hI2 hb3
      obtain ⟨_, _, e, _, c0, c1⟩ := hm.below hI3.bel k hlt
      cases e
      go_wp2_with fail
      refine (rAdd_both S _ _ so sc _ hI3.arg hI3.len).mono ?_
      rintro e w4 ⟨yo, yc, rfl, hy, hb4⟩
      clear c0 c1
      cases hok : setB S && isR (lo Rs k) (hi Rs k)
      case' false =>
        have hI4 := hI3.on hb4
        clear hy hb4 hI3
        have hE : ((eno false : Int) == 0) = false := rfl
        go_upto_region 16 with (fail)
        clear hE hok
        generalize S = S2 at *
        generalize so = so2 at *
        generalize sc = sc2 at *
      case' true =>
        rw [resL_yes hok] at hy ⊢
        have hok2 := hok
        rw [Bool.and_eq_true] at hok2
        have hI4 := hI3.turn hb4 hy (addTo_setB hok2.1 hok2.2)
        clear hy hb4 hI3 hok2
        have hE : ((eno true : Int) == 0) = true := rfl
        go_upto_region 16 with (fail)
        clear hE hok
        generalize addTo S (lo Rs k) (hi Rs k) = S2 at *
        generalize yo = so2 at *
        generalize yc = sc2 at *
      all_goals
        go_wp2_with fail
        refine (lent_any S2 so2 sc2 _ hI4.arg hI4.len).mono ?_
        rintro e w5 ⟨go, rfl, hrow, hb5⟩
        have hI5 := hI4.on hb5
        have hlen := hI4.len
        clear hI4 hb5
        generalize w4.heap.size = B at *
        clear w4
        go_wp2_with fail
        go_loopw [16] (fun i wx => ∃ j : Nat, j ≤ ns.length ∧ i = .int .i64 j ∧ SI w wx bk (4 * (3 * k + 3 + 3)) K2 ro2 rc2 vs2 S2 so2 ∧ RowIs wx B go (marks S2)) (fun i _ => ns.length - (intOf i).toNat)
        case atStart => exact ⟨0, Nat.zero_le _, rfl, hI5, hrow⟩
        case round =>
          clear hI5 hrow
          obtain ⟨j, hj, rfl, hI, hrow⟩ := hrel
          by_cases hjn : j < ns.length
          · have hn2 := hn.below hI.bel
            obtain ⟨nb, noff, rfl, hnb, d0⟩ := hn2 j hjn
            clear hn2
            have hcl := row_arg hrow
            generalize hn0 : ns.getD j 0 = n0 at d0
            clear hn0
            go_wp2_with fail
            refine wp_region_over (by kernel_rfl) (by kernel_rfl) ?_
            repeat (go_big_quiet_step ((go_at_call 9; exact quiet_over_at (has_cells S2 _ go 0 _ _ (hcl.below (over_below _ _) hcl.1) (by omega)))))
            refine wpQuiet_nil ?_
            rintro _ ⟨x, rfl⟩
            have hIa := hI.on (over_below wr x)
            have hra : RowIs (over wr x) B go (marks S2) := hrow.kept (grown_of_below (over_below wr x)) (.inr (by simp [Value.ownBlock]))
            have hda := ((over_below wr x).cell (p := ⟨nb, noff + j, none⟩) hnb).trans d0
            have hnb2 : nb < (over wr x).heap.size := Nat.lt_of_lt_of_le hnb (over_below wr x).size
            generalize over wr x = wa at *
            clear hI hrow hcl d0 hnb
            go_wp2_with fail
            refine (rHas_any S2 n0 so2 sc2 _ hIa.arg (by omega)).mono ?_
            rintro e wb ⟨rfl, hbb⟩
            generalize (setB S2 && hasB S2 n0) = B1 at *
            generalize eno (setB S2) = E1 at *
            have hIb := hIa.on hbb
            have hrb : RowIs wb B go (marks S2) := hra.kept (grown_of_below hbb) (.inr (by simp [Value.ownBlock]))
            have hdb := (hbb.cell (p := ⟨nb, noff + j, none⟩) hnb2).trans hda
            have hnb3 : nb < wb.heap.size := by have := hbb.size; omega
            have hclb := row_arg hrb
            clear hIa hra hda hbb hnb2
            go_wp2_with fail
            refine wp_region_over (by kernel_rfl) (by kernel_rfl) ?_
            repeat (go_big_quiet_step ((go_at_call 11; exact quiet_over_at (gap_cells S2 _ go 0 _ _ (hclb.below (over_below _ _) hclb.1) (by omega)))))
            refine wpQuiet_nil ?_
            rintro _ ⟨x, rfl⟩
            have hIc := hIb.on (over_below wb x)
            have hrc : RowIs (over wb x) B go (marks S2) := hrb.kept (grown_of_below (over_below wb x)) (.inr (by simp [Value.ownBlock]))
            have hdc := ((over_below wb x).cell (p := ⟨nb, noff + j, none⟩) hnb3).trans hdb
            generalize over wb x = wd at *
            clear hIb hrb hdb hclb
            go_wp2_with fail
            refine (rGap_any S2 n0 so2 sc2 _ hIc.arg (by omega)).mono ?_
            rintro e we ⟨rfl, hbe⟩
            generalize gapV S2 n0 = G1 at *
            generalize eno (setB S2 && fromOk n0) = E2 at *
            have hIe := hIc.on hbe
            have hre : RowIs we B go (marks S2) := hrc.kept (grown_of_below hbe) (.inr (by simp [Value.ownBlock]))
            clear hIc hrc hdc hbe hnb3
            go_wp2
            go_roundw
            case rel => exact ⟨j + 1, by omega, by go_num, hIe, hre⟩
            case measure => simp [intOf]; omega
          · go_wp2_with fail
            refine (kept_any S2 (some ⟨go, 0, none⟩) so2 (S2.length + 8) sc2 _ hI.arg (argL_cells hrow.cells) (by omega)).mono ?_
            rintro e wk ⟨rfl, hbk2⟩
            have hIk := hI.on hbk2
            clear hI hrow hbk2
            go_wp2
            go_roundw
            case rel => exact ⟨k + 1, S2, so2, sc2, K2, ro2, rc2, vs2, by omega, by go_num, rfl, hIk⟩
            case measure => simp [intOf]; omega
    · go_wp2_with fail
      refine (whole_any _ bk _ K ro rc vs hI.book (by omega)).mono ?_
      rintro e w2 ⟨rfl, hb2⟩
      have hI2 := hI.on hb2
      go_wp2
      go_ret
      refine ⟨rfl, ?_⟩
      have := hI2.bel
      exact this

end Go.Proofs.Ytockkceclkcgbaa

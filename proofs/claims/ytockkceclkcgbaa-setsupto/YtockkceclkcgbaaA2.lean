/- The contract of Book.added. -/
import Derived.Test.YtockkceclkcgbaaA1
import Derived.Deep.CutRange
namespace Go.Proofs.Ytockkceclkcgbaa
open Go.RowKit

attribute [local go_sem] over_cell

theorem AS.store {w wx : World} {bk N : Nat} {K K' : Nat → Prop} {ro : Option Addr} {rc : Nat} {vs : List Value} {L : RL} {ao : Option Addr} {go : Nat} {a b : Int} {Mo : RL}
    (h : AS w wx bk N K K' ro rc vs L ao go a b Mo) (i : Nat) (x y : Int) :
    AS w ((wx.setCell ⟨go, i * 2, none⟩ (.int .i64 x)).setCell ⟨go, i * 2 + 1, none⟩ (.int .i64 y)) bk N K K' ro rc vs L ao go a b (Mo.set i (x, y)) := by
  have hk : Kept (fun b => b = go) wx ((wx.setCell ⟨go, i * 2, none⟩ (.int .i64 x)).setCell ⟨go, i * 2 + 1, none⟩ (.int .i64 y)) :=
    (kept_setCell wx ⟨go, i * 2, none⟩ _).trans (kept_setCell _ ⟨go, i * 2 + 1, none⟩ _) (fun _ _ e => e)
  have hg := h.gol
  exact ⟨h.book.kept hk (fun b hb e => h.goK (e ▸ hb)), h.newK, h.kept.trans hk (fun i hi e => by omega), by rw [hk.block _ h.rbl (by omega)]; exact h.box, h.rbK, Nat.lt_of_lt_of_le h.rbl hk.size, h.goK, h.gol, Nat.lt_of_lt_of_le h.got hk.size,
    h.set.kept hk (fun i h0 hi e => by have := h.setl i h0 hi; omega), h.setl, h.setK, h.row.stored i x y⟩

/-- What the owner writes into the list that was lent: a range one further up. -/
def shr (r : Int × Int) : Int × Int := if r.2 < 1000 ∧ 0 ≤ r.1 then (wrap64 (r.1 + 1), r.2 + 1) else r
def upd (L : RL) (k : Nat) : RL := (L.take k).map shr ++ L.drop k
theorem upd_length (L : RL) (k : Nat) (h : k ≤ L.length) : (upd L k).length = L.length := by simp [upd]; omega
theorem upd_zero (L : RL) : upd L 0 = L := by simp [upd]
theorem upd_all (L : RL) : upd L L.length = L.map shr := by simp [upd]
theorem upd_at (L : RL) (k : Nat) (h : k < L.length) : (upd L k)[k]? = some (lo L k, hi L k) := by
  rw [upd, List.getElem?_append_right (by simp; omega), drop_at L k h]
  have : k - (List.map shr (List.take k L)).length = 0 := by simp; omega
  rw [this]; rfl
theorem take_map (L : RL) (k : Nat) (h : k < L.length) : (L.take (k + 1)).map shr = (L.take k).map shr ++ [shr (lo L k, hi L k)] := by
  rw [take_one L k h]; simp
theorem upd_set (L : RL) (k : Nat) (h : k < L.length) : (marks (upd L k)).set k (shr (lo L k, hi L k)) = marks (upd L (k + 1)) := by
  have hl : (List.map shr (List.take k L)).length = k := by simp; omega
  unfold marks upd
  rw [drop_at L k h, take_map L k h]
  simp only [List.append_assoc]
  rw [List.set_append_right _ _ (by omega), hl, Nat.sub_self]
  rfl
theorem upd_same (L : RL) (k : Nat) (h : k < L.length) : (marks (upd L k)).set k (lo L k, hi L k) = marks (upd L k) := by
  have hl : (List.map shr (List.take k L)).length = k := by simp; omega
  unfold marks upd
  rw [drop_at L k h]
  simp only [List.append_assoc]
  rw [List.set_append_right _ _ (by omega), hl, Nat.sub_self]
  rfl

theorem add_at (rs : RL) (n : Nat) (hn : rs.length = n) (a b : Int) (bl off cap : Nat) (w : World) (hc : Cells w bl off rs) (hlen : n ≤ 549755813889) (hcap : n ≤ cap) :
    Calls Try.prog 14 #[.slice (some ⟨bl, off, none⟩) n cap, .agg #[.int .i64 a, .int .i64 b]] w fun e w' => ∃ xo c,
      e = .returned (.tuple #[.slice xo (resL rs a b).length c, .int .i64 (eno (setB rs && isR a b))]) ∧ OwnL w' w.heap.size (resL rs a b) xo c ∧ Below w.heap.size w w' := by
  subst hn; exact add_both rs a b bl off cap w hc hlen hcap
theorem rAdd_at (rs : RL) (n : Nat) (hn : rs.length = n) (a b : Int) (ao : Option Addr) (cap : Nat) (w : World) (hl : ArgL w ao rs) (hlen : n ≤ 549755813889) :
    Calls Try.prog 7 #[.slice ao n cap, .agg #[.int .i64 a, .int .i64 b]] w fun e w' => ∃ xo c,
      e = .returned (.tuple #[.slice xo (resL rs a b).length c, .int .i64 (eno (setB rs && isR a b))]) ∧ OwnL w' w.heap.size (resL rs a b) xo c ∧ Below w.heap.size w w' := by
  subst hn; exact rAdd_both rs a b ao cap w hl hlen
theorem kept_at (L : RL) (n : Nat) (hn : L.length = n) (ao ao' : Option Addr) (cap cap' : Nat) (w : World) (hl : ArgL w ao' L) (hm : ArgL w ao (marks L)) (hlen : n ≤ 140737488355328) :
    Calls Try.prog 13 #[.slice ao (n + 8) cap, .slice ao' n cap'] w fun e w' => e = .returned (.bool true) ∧ Below w.heap.size w w' := by
  subst hn; exact kept_any L ao ao' cap cap' w hl hm hlen
theorem own_shape {w : World} {B n : Nat} {v : Value} {M : RL} (h : w.ownsRow B 31 2 v n (flat M)) (hn : M.length = n) : ∃ oo oc, v = .slice oo n oc ∧ OwnL w B M oo oc := by
  subst hn
  rcases h.2 with ⟨rfl, h0⟩ | ⟨g, cap, cur, rfl, hr⟩
  · exact ⟨none, 0, by rw [h0], .inl ⟨rfl, List.eq_nil_of_length_eq_zero h0, rfl⟩⟩
  · exact ⟨_, cap, rfl, .inr ⟨g, rfl, h⟩⟩

structure AL (w w10 wr : World) (bk N : Nat) (K K' : Nat → Prop) (ro : Option Addr) (rc : Nat) (vs : List Value) (L : RL) (ao : Option Addr) (go : Nat) (a b : Int) (k : Nat) (v : Value) : Prop where
  st : AS w wr bk N K K' ro rc vs L ao go a b (marks (upd L k))
  lt : w10.heap.size ≤ wr.heap.size
  klt : ∀ b, K' b → b < w10.heap.size
  glt : go < w10.heap.size
  own : wr.ownsRow w10.heap.size 31 2 v k (flat ((L.take k).map shr))

theorem lo_set (M : RL) (k : Nat) (x y : Int) (h : k < M.length) : lo (M.set k (x, y)) k = x := by simp [lo, List.getD, h]
theorem hi_set (M : RL) (k : Nat) (x y : Int) (h : k < M.length) : hi (M.set k (x, y)) k = y := by simp [hi, List.getD, h]

theorem AL.next {w w10 wr wx w' : World} {o : Obj} {bk N : Nat} {K K' : Nat → Prop} {ro : Option Addr} {rc : Nat} {vs : List Value} {L : RL} {ao : Option Addr} {go : Nat} {a b : Int} {k : Nat} {v v' : Value} {x y : Int}
    (hI : AL w w10 wr bk N K K' ro rc vs L ao go a b k v) (hlt : k < L.length) (hs : shr (lo L k, hi L k) = (x, y)) (hA : AS w wx bk N K K' ro rc vs L ao go a b ((marks (upd L k)).set k (x, y))) (hz : wr.heap.size ≤ wx.heap.size)
    (hown : w'.ownsRow w10.heap.size 31 2 v' (k + 1) (flat ((L.take k).map shr) ++ flat [(x, y)])) (hg : (wx.alloc o).grownBy w' v.ownBlock) : AL w w10 w' bk N K K' ro rc vs L ao go a b (k + 1) v' := by
  have hb : Below wx.heap.size wx (wx.alloc o) := (Below.refl _ _).alloc (Nat.le_refl _) o
  have hA2 := hA.on hb
  have hv : ∀ i, v.ownBlock = some i → w10.heap.size ≤ i := fun i e => (hI.own.lt i e).1
  have hl := hI.lt
  have hgl := hI.glt
  have hgo := hA.gol
  have hA3 := hA2.step (kept_of_grown hg) (hA2.book.kept (kept_of_grown hg) (fun i hi e => by have h1 := hv i e.symm; have h2 := hI.klt i hi; omega)) (fun _ h => .inl h) (fun i e => by
    have h1 := hv i e.symm; exact .inr ⟨by omega, by omega⟩)
  refine ⟨?_, Nat.le_trans (Nat.le_trans hl hz) (Nat.le_trans hb.size hg.size), hI.klt, hI.glt, ?_⟩
  · rw [← upd_set L k hlt, hs]; exact hA3
  · rw [take_map L k hlt, flat_append, hs]; exact hown

set_option maxHeartbeats 4000000 in
set_option maxRecDepth 100000 in
theorem added_any (w : World) (bk q : Nat) (K : Nat → Prop) (ro : Option Addr) (rc : Nat) (vs : List Value) (L : RL) (ao : Option Addr) (cap : Nat) (a b : Int)
    (hB : BookI w bk K (4 * q) ro rc vs) (hl : ArgL w ao L) (hw : ArgW L) (hK : ∀ b, 0 < L.length → blk ao b → ¬ K b) (hlen : L.length ≤ 549755813889) (hq : q ≤ 900000000) :
    Calls Try.prog 5 #[.pointer (some ⟨bk, 0, none⟩), .slice ao L.length cap, .agg #[.int .i64 a, .int .i64 b]] w fun e w' => e = .returned (.bool true) ∧
      ∃ K' ro' rc' vs', BookI w' bk K' (4 * (q + 3)) ro' rc' vs' ∧ (∀ b, K' b → K b ∨ w.heap.size ≤ b) ∧ Kept K w w' := by
  have hb0 : Below w.heap.size w (w.alloc (.cells #[.int .i64 a, .int .i64 b] 31)) := (Below.refl _ _).alloc (Nat.le_refl _) _
  have hl0 := hl.below hb0
  go_enter Try.func5, Try.ntmps5
  go_wp2_with fail
  refine (lent_any L ao cap _ hl0 hlen).mono ?_
  rintro e w1 ⟨go, rfl, hrow, hb1⟩
  have hA1 : AS w w1 bk (4 * q) K K ro rc vs L ao go a b (marks L) := by
    have hw1 : Below w.heap.size w w1 := hb0.trans (hb1.mono (by simp))
    have hgo := World.ownsRow.lt hrow go rfl
    simp at hgo
    refine ⟨hB.on hw1, fun _ h => .inl h, kept_of_below _ hw1, ?_, fun h => by have := hB.klt _ h; omega, by omega, fun h => by have := hB.klt _ h; omega, by omega, hgo.2, hl.below hw1, fun i h0 hi => ?_, hK, ?_⟩
    · rw [hb1.block _ (by simp)]; exact heap_alloc_new w _
    · obtain ⟨b', off, e, hlt, _⟩ := hl 0 h0
      obtain ⟨o, e2⟩ := hi
      rw [e] at e2; cases e2; exact hlt
    · have : (w.alloc (.cells #[.int .i64 a, .int .i64 b] 31)).heap.size = w.heap.size + 1 := by simp
      rw [← this]; exact hrow
  clear hl0 hb0 hb1 hrow
  obtain ⟨i0, hj0, hj1, hj2, hj3⟩ := info_parts Try.info31
  have hcl := hA1.cellsOf
  have r0 := hA1.r0
  have r1 := hA1.r1
  have hrl := hA1.rbl
  have hML := resL_len L a b
  generalize hM : resL L a b = M at *
  generalize hE : eno (setB L && isR a b) = E at *
  have HM := hide hM
  have HE := hide hE
  clear hM hE
  go_wp2_with fail
  go_cut [8, 9] from 21 to 29 (fun x e w' => ∃ xo xc, x = .slice xo M.length xc ∧ e = .int .i64 E ∧ OwnL w' w1.heap.size M xo xc ∧ Below w1.heap.size w1 w')
  case first =>
    go_region_with (go_at_call 14; refine (add_at L _ rfl a b go 0 (L.length + 8) _ (hcl.below (Below.refl _ _).drew hcl.1) hlen (by omega)).mono ?_; rintro e w2 ⟨xo, xc, rfl, hx, hb2⟩; rw [HM.out] at hx ⊢; rw [HE.out])
    all_goals
      go_wp2_with fail
      go_meet
      exact ⟨xo, xc, rfl, rfl, hx, (Below.refl _ _).drew.trans hb2⟩
  case rest =>
    clear r0 r1 hcl hrl
    obtain ⟨xo, xc, rfl, rfl, hx, hb2⟩ := hcut
    generalize wc = w2 at *
    have hA2 := hA1.on hb2
    have hx1 : ∀ i, blk xo i → w.heap.size + 1 ≤ i ∧ i ≠ go ∧ i < w2.heap.size := fun i hi => by
      have h1 := hx.blk hi; have h2 := hA1.got; have h3 := hA1.rbl; omega
    have hcl := hA2.cellsOf
    have r0 := hA2.r0
    have r1 := hA2.r1
    have hrl := hA2.rbl
    clear hA1 hb2
    go_wp2_with fail
    go_cut [10, 11] from 30 to 38 (fun x e w' => ∃ xo xc, x = .slice xo M.length xc ∧ e = .int .i64 E ∧ OwnL w' w2.heap.size M xo xc ∧ Below w2.heap.size w2 w')
    case first =>
      go_region_with (go_at_call 14; refine (add_at L _ rfl a b go 0 (L.length + 8) _ (hcl.below (Below.refl _ _).drew hcl.1) hlen (by omega)).mono ?_; rintro e wz ⟨zo, zc, rfl, hx, hbz⟩; rw [HM.out] at hx ⊢; rw [HE.out])
      all_goals
        go_wp2_with fail
        go_meet
        exact ⟨zo, zc, rfl, rfl, hx, (Below.refl _ _).drew.trans hbz⟩
    case rest =>
      clear r0 r1 hcl hrl
      obtain ⟨zo, zc, rfl, rfl, hz, hb3⟩ := hcut
      generalize wc = w3 at *
      have hA3 := hA2.on hb3
      have hx3 := hx.kept (kept_of_below (fun _ => False) hb3) (fun _ _ h => h)
      have hz1 : ∀ i, blk zo i → w.heap.size + 1 ≤ i ∧ i ≠ go ∧ ¬ blk xo i := fun i hi => by
        have h1 := hz.blk hi; have h2 := hA2.got; have h3 := hA2.rbl
        refine ⟨by omega, by omega, fun h => ?_⟩
        have := hx1 i h; omega
      have r0 := hA3.r0
      have r1 := hA3.r1
      clear hA2 hx
      go_wp2_with fail
      refine (rAdd_both L a b ao cap _ hA3.set hlen).mono ?_
      rintro e w4 ⟨yo, yc, rfl, hy, hb4⟩
      rw [HM.out] at hy ⊢
      rw [HE.out]
      have hA4 := hA3.on hb4
      have hx4 := hx3.kept (kept_of_below (fun _ => False) hb4) (fun _ _ h => h)
      have hz4 := hz.kept (kept_of_below (fun _ => False) hb4) (fun _ _ h => h)
      clear hA3 hx3 hz hb4 r0 r1 hb3
      go_wp2_with fail
      refine (same_any M xo yo xc yc _ hx4.arg hy.arg (by omega)).mono ?_
      rintro e w5 ⟨rfl, hb5⟩
      have hA5 := hA4.on hb5
      have hx5 := hx4.kept (kept_of_below (fun _ => False) hb5) (fun _ _ h => h)
      have hz5 := hz4.kept (kept_of_below (fun _ => False) hb5) (fun _ _ h => h)
      have hy5 := hy.kept (kept_of_below (fun _ => False) hb5) (fun _ _ h => h)
      clear hA4 hx4 hz4 hy hb5
      go_wp2_with fail
      refine (same_any M zo yo zc yc _ hz5.arg hy5.arg (by omega)).mono ?_
      rintro e w6 ⟨rfl, hb6⟩
      have hA6 := hA5.on hb6
      have hx6 := hx5.kept (kept_of_below (fun _ => False) hb6) (fun _ _ h => h)
      have hz6 := hz5.kept (kept_of_below (fun _ => False) hb6) (fun _ _ h => h)
      clear hA5 hx5 hz5 hy5 hb6
      go_wp2_with fail
      refine (kept_any L (some ⟨go, 0, none⟩) ao (L.length + 8) cap _ hA6.set (argL_cells hA6.row.cells) (by omega)).mono ?_
      rintro e w7 ⟨rfl, hb7⟩
      have hA7 := hA6.on hb7
      have hx7 := hx6.kept (kept_of_below (fun _ => False) hb7) (fun _ _ h => h)
      have hz7 := hz6.kept (kept_of_below (fun _ => False) hb7) (fun _ _ h => h)
      clear hA6 hx6 hz6 hb7
      go_wp2_with fail
      have hnK : ∀ i, w.heap.size + 1 ≤ i → ¬ K i := fun i hi h => by have := hB.klt i h; omega
      refine (keep_own w7 bk q _ K ro rc vs xo M xc hA7.book hx7 (fun i hi => hnK i (hx1 i hi).1) hML (by omega)).mono ?_
      rintro e w8 ⟨rfl, K8, ro8, rc8, vs8, hB8, hK8, hk8⟩
      have hA8 := hA7.step hk8 hB8 (fun i hi => by
        rcases hK8 i hi with h | h | h
        · exact .inl h
        · exact .inr ⟨(hx1 i h).1, (hx1 i h).2.1⟩
        · have := hA7.got; exact .inr ⟨by have := hA7.rbl; omega, by omega⟩) (fun i hi => by
        rcases hi with h | h
        · exact .inl h
        · exact .inr ⟨(hx1 i h).1, (hx1 i h).2.1⟩)
      have hz8 := hz7.kept hk8 (fun i hi h => by
        rcases h with h | h
        · exact hnK i (hz1 i hi).1 h
        · exact (hz1 i hi).2.2 h)
      have hzK8 : ∀ i, blk zo i → ¬ K8 i := fun i hi h => by
        rcases hK8 i h with h | h | h
        · exact hnK i (hz1 i hi).1 h
        · exact (hz1 i hi).2.2 h
        · have := (hz7.blk hi).2; omega
      clear hx7 hz7 hA7 hk8 hK8 hB8
      go_wp2_with fail
      refine (keep_own w8 bk (q + 1) _ K8 ro8 rc8 vs8 zo M zc hA8.book hz8 hzK8 hML (by omega)).mono ?_
      rintro e w9 ⟨rfl, K9, ro9, rc9, vs9, hB9, hK9, hk9⟩
      have hA9 := hA8.step hk9 hB9 (fun i hi => by
        rcases hK9 i hi with h | h | h
        · exact .inl h
        · exact .inr ⟨(hz1 i h).1, (hz1 i h).2.1⟩
        · have := hA8.got; exact .inr ⟨by have := hA8.rbl; omega, by omega⟩) (fun i hi => by
        rcases hi with h | h
        · exact .inl h
        · exact .inr ⟨(hz1 i h).1, (hz1 i h).2.1⟩)
      clear hA8 hz8 hzK8 hk9 hK9 hB9
      go_wp2_with fail
      refine (kept_any L (some ⟨go, 0, none⟩) ao (L.length + 8) cap _ hA9.set (argL_cells hA9.row.cells) (by omega)).mono ?_
      rintro e w10 ⟨rfl, hb10⟩
      have hA10 := hA9.on hb10
      clear hA9 hb10 hx1 hz1
      go_wp2_with fail
      go_loopw [17, 18] (fun v i wr => ∃ k : Nat, k ≤ L.length ∧ i = .int .i64 k ∧ AL w w10 wr bk (4 * (q + 1 + 1)) K K9 ro9 rc9 vs9 L ao go a b k v) (fun _ i _ => L.length - (intOf i).toNat)
      case atStart => exact ⟨0, Nat.zero_le _, rfl, by rw [upd_zero]; exact hA10, Nat.le_refl _, hA10.book.klt, hA10.got, World.ownsRow_nil _ _ _ _⟩
      case round =>
        clear hA10
        obtain ⟨k, hk, rfl, hI⟩ := hrel
        have hA := hI.st
        by_cases hlt : k < L.length
        · obtain ⟨bs, off, rfl, hbs, c0, c1⟩ := hA.set k hlt
          have hbs2 := hA.setl bs (by omega) ⟨off, rfl⟩
          have hgl := hA.gol
          have hne : ¬ go = bs := by omega
          have hne2 : ¬ bs = go := by omega
          have hcc := hA.row.cells.2 k (by rw [marks_length, upd_length L k hk]; omega)
          have f0 := World.ownsRow.frozenAt hA.row (k * 2)
          have f1 := World.ownsRow.frozenAt hA.row (k * 2 + 1)
          have g0 := hcc.1
          have g1 := hcc.2
          simp only [Nat.zero_add] at g0 g1
          obtain ⟨w0, w1', w2', w3'⟩ := hw k hlt
          clear hcc
          by_cases h1 : hi L k < 1000
          · by_cases h2 : 0 ≤ lo L k
            · go_upto_region 21 with (fail)
              have hsh : shr (lo L k, hi L k) = (wrap64 (lo L k + 1), hi L k + 1) := by simp only [shr]; rw [if_pos ⟨h1, h2⟩]
              have hA2 := (hA.store k (lo L k) (hi L k)).store k (wrap64 (lo L k + 1)) (hi L k + 1)
              rw [upd_same L k hlt] at hA2
              have ho := ownsRow_setCell_below (ownsRow_setCell_below (ownsRow_setCell_below (ownsRow_setCell_below hI.own (a := ⟨go, k * 2, none⟩) hI.glt (.int .i64 (lo L k))) (a := ⟨go, k * 2 + 1, none⟩) hI.glt (.int .i64 (hi L k))) (a := ⟨go, k * 2, none⟩) hI.glt (.int .i64 (wrap64 (lo L k + 1)))) (a := ⟨go, k * 2 + 1, none⟩) hI.glt (.int .i64 (hi L k + 1))
              have hsz0 : ((((wr.setCell ⟨go, k * 2, none⟩ (.int .i64 (lo L k))).setCell ⟨go, k * 2 + 1, none⟩ (.int .i64 (hi L k))).setCell ⟨go, k * 2, none⟩ (.int .i64 (wrap64 (lo L k + 1)))).setCell ⟨go, k * 2 + 1, none⟩ (.int .i64 (hi L k + 1))).heap.size = wr.heap.size := by simp [World.setCell]
              generalize (((wr.setCell ⟨go, k * 2, none⟩ (.int .i64 (lo L k))).setCell ⟨go, k * 2 + 1, none⟩ (.int .i64 (hi L k))).setCell ⟨go, k * 2, none⟩ (.int .i64 (wrap64 (lo L k + 1)))).setCell ⟨go, k * 2 + 1, none⟩ (.int .i64 (hi L k + 1)) = wx at *
              have hsz : wr.heap.size ≤ wx.heap.size := Nat.le_of_eq hsz0.symm
              have hcc := hA2.row.cells.2 k (by rw [List.length_set, marks_length, upd_length L k hk]; omega)
              rw [lo_set _ _ _ _ (by rw [marks_length, upd_length L k hk]; omega), hi_set _ _ _ _ (by rw [marks_length, upd_length L k hk]; omega)] at hcc
              have p0 := hcc.1
              have p1 := hcc.2
              simp only [Nat.zero_add] at p0 p1
              have hll := hI.lt
              clear hcc c0 c1 f0 f1 g0 g1 hsz0
              go_wp2_with (at_builtin; refine wpList_append_own _ rfl (.tmp 129) (.tmp 134) 22 rfl w10.heap.size 31 i0 _ 2 16 Try.underlying22 hj0 hj1 hj2 hj3 rfl (by decide) _ k (flat ((L.take k).map shr)) rfl (ho.alloc _) ⟨wx.heap.size, 0, none⟩ 1 1 (flat [(wrap64 (lo L k + 1), hi L k + 1)]) rfl rfl (news_one _ _ _) (flat_oneCell _) (by unfold maxLen; omega) (by omega) (by simp; omega) ?_; intro v1 w6 hown1 hgrow1 _)
              go_roundw
              case rel => exact ⟨k + 1, by omega, by go_num, hI.next hlt hsh hA2 hsz hown1 hgrow1⟩
              case measure => simp [intOf]; omega
            · go_upto_region 21 with (fail)
              have hsh : shr (lo L k, hi L k) = (lo L k, hi L k) := by simp only [shr]; rw [if_neg (by simp; omega)]
              have hA2 := hA.store k (lo L k) (hi L k)
              have ho := ownsRow_setCell_below (ownsRow_setCell_below hI.own (a := ⟨go, k * 2, none⟩) hI.glt (.int .i64 (lo L k))) (a := ⟨go, k * 2 + 1, none⟩) hI.glt (.int .i64 (hi L k))
              have hsz0 : ((wr.setCell ⟨go, k * 2, none⟩ (.int .i64 (lo L k))).setCell ⟨go, k * 2 + 1, none⟩ (.int .i64 (hi L k))).heap.size = wr.heap.size := by simp [World.setCell]
              generalize (wr.setCell ⟨go, k * 2, none⟩ (.int .i64 (lo L k))).setCell ⟨go, k * 2 + 1, none⟩ (.int .i64 (hi L k)) = wx at *
              have hsz : wr.heap.size ≤ wx.heap.size := Nat.le_of_eq hsz0.symm
              have hcc := hA2.row.cells.2 k (by rw [List.length_set, marks_length, upd_length L k hk]; omega)
              rw [lo_set _ _ _ _ (by rw [marks_length, upd_length L k hk]; omega), hi_set _ _ _ _ (by rw [marks_length, upd_length L k hk]; omega)] at hcc
              have p0 := hcc.1
              have p1 := hcc.2
              simp only [Nat.zero_add] at p0 p1
              have hll := hI.lt
              clear hcc c0 c1 f0 f1 g0 g1 hsz0
              go_wp2_with (at_builtin; refine wpList_append_own _ rfl (.tmp 129) (.tmp 134) 22 rfl w10.heap.size 31 i0 _ 2 16 Try.underlying22 hj0 hj1 hj2 hj3 rfl (by decide) _ k (flat ((L.take k).map shr)) rfl (ho.alloc _) ⟨wx.heap.size, 0, none⟩ 1 1 (flat [(lo L k, hi L k)]) rfl rfl (news_one _ _ _) (flat_oneCell _) (by unfold maxLen; omega) (by omega) (by simp; omega) ?_; intro v1 w6 hown1 hgrow1 _)
              go_roundw
              case rel => exact ⟨k + 1, by omega, by go_num, hI.next hlt hsh hA2 hsz hown1 hgrow1⟩
              case measure => simp [intOf]; omega
          · go_upto_region 21 with (fail)
            have hsh : shr (lo L k, hi L k) = (lo L k, hi L k) := by simp only [shr]; rw [if_neg (by simp; omega)]
            have hA2 := hA.store k (lo L k) (hi L k)
            have ho := ownsRow_setCell_below (ownsRow_setCell_below hI.own (a := ⟨go, k * 2, none⟩) hI.glt (.int .i64 (lo L k))) (a := ⟨go, k * 2 + 1, none⟩) hI.glt (.int .i64 (hi L k))
            have hsz0 : ((wr.setCell ⟨go, k * 2, none⟩ (.int .i64 (lo L k))).setCell ⟨go, k * 2 + 1, none⟩ (.int .i64 (hi L k))).heap.size = wr.heap.size := by simp [World.setCell]
            generalize (wr.setCell ⟨go, k * 2, none⟩ (.int .i64 (lo L k))).setCell ⟨go, k * 2 + 1, none⟩ (.int .i64 (hi L k)) = wx at *
            have hsz : wr.heap.size ≤ wx.heap.size := Nat.le_of_eq hsz0.symm
            have hcc := hA2.row.cells.2 k (by rw [List.length_set, marks_length, upd_length L k hk]; omega)
            rw [lo_set _ _ _ _ (by rw [marks_length, upd_length L k hk]; omega), hi_set _ _ _ _ (by rw [marks_length, upd_length L k hk]; omega)] at hcc
            have p0 := hcc.1
            have p1 := hcc.2
            simp only [Nat.zero_add] at p0 p1
            have hll := hI.lt
            clear hcc c0 c1 f0 f1 g0 g1 hsz0
            go_wp2_with (at_builtin; refine wpList_append_own _ rfl (.tmp 129) (.tmp 134) 22 rfl w10.heap.size 31 i0 _ 2 16 Try.underlying22 hj0 hj1 hj2 hj3 rfl (by decide) _ k (flat ((L.take k).map shr)) rfl (ho.alloc _) ⟨wx.heap.size, 0, none⟩ 1 1 (flat [(lo L k, hi L k)]) rfl rfl (news_one _ _ _) (flat_oneCell _) (by unfold maxLen; omega) (by omega) (by simp; omega) ?_; intro v1 w6 hown1 hgrow1 _)
            go_roundw
            case rel => exact ⟨k + 1, by omega, by go_num, hI.next hlt hsh hA2 hsz hown1 hgrow1⟩
            case measure => simp [intOf]; omega
        · have hkn : k = L.length := by omega
          subst hkn
          have hL2 : (L.map shr).length = L.length := by simp
          have hA11 := hA
          rw [upd_all L] at hA11
          obtain ⟨oo, oc, rfl, ho11⟩ := own_shape (M := L.map shr) (by have := hI.own; rwa [List.take_length] at this) hL2
          have hoo : ∀ i, blk oo i → w10.heap.size ≤ i := fun i hi => (ho11.blk hi).1
          have hkl := hI.klt
          have hgl := hI.glt
          clear hA hI
          generalize L.map shr = L2 at *
          have hM2L := resL_len L2 a b
          generalize hM2 : resL L2 a b = M2 at *
          generalize hE2 : eno (setB L2 && isR a b) = E2 at *
          have HM2 := hide hM2
          have HE2 := hide hE2
          clear hM2 hE2
          have hL2' := hide hL2
          clear hL2
          have hcl := hA11.cellsOf
          have r0 := hA11.r0
          have r1 := hA11.r1
          have hrl := hA11.rbl
          go_wp2_with fail
          go_cut [8, 9] from 136 to 144 (fun x e w' => ∃ xo xc, x = .slice xo M2.length xc ∧ e = .int .i64 E2 ∧ OwnL w' wr.heap.size M2 xo xc ∧ Below wr.heap.size wr w')
          case first =>
            go_region_with (go_at_call 14; refine (add_at L2 _ hL2'.out a b go 0 (L.length + 8) _ (hcl.below (Below.refl _ _).drew hcl.1) hlen (by omega)).mono ?_; rintro e wz ⟨zo, zc, rfl, hx, hbz⟩; rw [HM2.out] at hx ⊢; rw [HE2.out])
            all_goals
              go_wp2_with fail
              go_meet
              exact ⟨zo, zc, rfl, rfl, hx, (Below.refl _ _).drew.trans hbz⟩
          case rest =>
            clear r0 r1 hcl hrl
            obtain ⟨x2, x2c, rfl, rfl, hx, hb2⟩ := hcut
            generalize wc = w12 at *
            have hA12 := hA11.on hb2
            have ho12 := ho11.kept (kept_of_below (fun _ => False) hb2) (fun _ _ h => h)
            have hx1 : ∀ i, blk x2 i → w.heap.size + 1 ≤ i ∧ i ≠ go ∧ wr.heap.size ≤ i := fun i hi => by
              have h1 := hx.blk hi; have h2 := hA11.got; have h3 := hA11.rbl; omega
            have hxK : ∀ i, blk x2 i → ¬ K9 i := fun i hi h => by
              have h1 := hA11.book.klt i h; have h2 := (hx1 i hi).2.2; omega
            have r0 := hA12.r0
            have r1 := hA12.r1
            clear hA11 hb2 ho11
            go_wp2_with fail
            refine (rAdd_at L2 _ hL2'.out a b oo oc _ ho12.arg hlen).mono ?_
            rintro e w13 ⟨y2, y2c, rfl, hy, hb4⟩
            rw [HM2.out] at hy ⊢
            rw [HE2.out]
            have hA13 := hA12.on hb4
            have ho13 := ho12.kept (kept_of_below (fun _ => False) hb4) (fun _ _ h => h)
            have hx13 := hx.kept (kept_of_below (fun _ => False) hb4) (fun _ _ h => h)
            clear hA12 ho12 hx hb4 r0 r1
            go_wp2_with fail
            refine (same_any M2 x2 y2 x2c y2c _ hx13.arg hy.arg (by omega)).mono ?_
            rintro e w14 ⟨rfl, hb5⟩
            have hA14 := hA13.on hb5
            have ho14 := ho13.kept (kept_of_below (fun _ => False) hb5) (fun _ _ h => h)
            have hx14 := hx13.kept (kept_of_below (fun _ => False) hb5) (fun _ _ h => h)
            clear hA13 ho13 hx13 hy hb5
            go_wp2_with fail
            refine (kept_at L2 _ hL2'.out (some ⟨go, 0, none⟩) oo (L.length + 8) oc _ ho14.arg (argL_cells hA14.row.cells) (by omega)).mono ?_
            rintro e w15 ⟨rfl, hb7⟩
            have hA15 := hA14.on hb7
            have hx15 := hx14.kept (kept_of_below (fun _ => False) hb7) (fun _ _ h => h)
            clear hA14 ho14 hx14 hb7
            go_wp2_with fail
            refine (keep_own w15 bk (q + 1 + 1) _ K9 ro9 rc9 vs9 x2 M2 x2c hA15.book hx15 hxK hM2L (by omega)).mono ?_
            rintro e w16 ⟨rfl, K16, ro16, rc16, vs16, hB16, hK16, hk16⟩
            have hA16 := hA15.step hk16 hB16 (fun i hi => by
              rcases hK16 i hi with h | h | h
              · exact .inl h
              · exact .inr ⟨(hx1 i h).1, (hx1 i h).2.1⟩
              · have := hA15.got; exact .inr ⟨by have := hA15.rbl; omega, by omega⟩) (fun i hi => by
              rcases hi with h | h
              · exact .inl h
              · exact .inr ⟨(hx1 i h).1, (hx1 i h).2.1⟩)
            clear hA15 hx15 hk16 hK16 hB16
            go_wp2
            go_ret
            exact ⟨rfl, K16, ro16, rc16, vs16, hA16.book, hA16.newK, hA16.kept⟩

end Go.Proofs.Ytockkceclkcgbaa

/- Helpers over any program: a region that draws its order, whose operations read, but for a tail that waits for all of them (a store): the head goes by one walk, the tail as it stands. -/
import Derived.Test.YtgcbooflhdjnhaaT01
import Derived.StillTail
import Derived.Test.YtgcbooflhdjnhaaT19
import Derived.Laws.BytesArg
namespace Go.Proofs.Ytgcbooflhdjnhaa
open Go.RowKit

theorem wpStill_of_quiet {P : Program} {ops : Array Oper} {w : World} {Q : Act → Prop} : ∀ (l : List Oper) (a : Act), wpQuiet P ops (fun w' => w' = w) Q l a → wpStill P ops w Q l a
  | [], _, h => h
  | o :: rest, a, h => by
    unfold wpQuiet at h
    unfold wpStill
    by_cases hw : Region.wanted o (yielded ops a.tmps) = true
    · rw [if_pos hw] at h ⊢
      obtain ⟨v, h1, h2⟩ := h
      have h3 := h1 w rfl
      have h4 := wpStill_of_quiet rest _ h2
      unfold Oper.quietAt at h3
      unfold Oper.still
      generalize (execOp a.eval o).run P w = r at *
      cases r with
      | ok n w' =>
        cases n with
        | value u =>
          simp only [Oper.quietUpon] at h3
          simp only [Oper.stillUpon]
          rw [h3.2]
          exact ⟨h3.1, h4⟩
        | skip =>
          simp only [Oper.quietUpon] at h3
          simp only [Oper.stillUpon]
          rw [h3.2] at h4
          exact ⟨h3.1, h4⟩
        | enter f args =>
          simp only [Oper.quietUpon] at h3
          simp only [Oper.stillUpon]
          exact ⟨h3.1, v, h3.2, h4⟩
        | _ => simp [Oper.quietUpon] at h3
      | _ => simp [Oper.quietUpon] at h3
    · rw [if_neg hw] at h ⊢
      exact wpStill_of_quiet rest _ h

theorem wp_region_tail {P : Program} {id : Nat} {Q : Exit → Act → World → Prop} {a : Act} {w : World} {l : List Oper} (n : Nat) (hm : P.follows .mixedOrders = true) (hB : Region.lexTailB .any l.toArray n = true)
    (h : wpQuiet P l.toArray (fun w' => w' = w.drew) (fun a' => wpList P l.toArray Q (l.drop n) a' w.drew) (l.take n) a) : (Code.region id l.toArray true).wp P Q a w :=
  wp_region_still_tail n hm hB (wpStill_of_quiet _ _ h)

end Go.Proofs.Ytgcbooflhdjnhaa

/- Contracts of the small functions of package quaykeep: names, picks, a configuration out of numbers. -/
namespace Go.Proofs.Ytgcbooflhdjnhaa
open Go.RowKit

theorem run_str1 (w : World) (n : Int) : (convert 132 9 (.slice (some ⟨w.heap.size, 0, none⟩) 1 1)).run Try.prog (w.alloc (.cells #[.int .u8 n] 5)) = .ok (.string (strOfNums [n])) (w.alloc (.cells #[.int .u8 n] 5)) := by
  refine run_convert_bytes_arg _ 132 5 (by kernel_rfl) (by kernel_rfl) w.heap.size 0 1 1 [n] rfl (fun i hi => ?_) 9 (by kernel_rfl)
  obtain rfl : i = 0 := by omega
  have h := heap_alloc_new w (.cells #[.int .u8 n] 5)
  unfold World.cell?
  simp only [h]
  rfl
theorem run_str2 (w : World) (n m : Int) : (convert 132 9 (.slice (some ⟨w.heap.size, 0, none⟩) 2 2)).run Try.prog (w.alloc (.cells #[.int .u8 n, .int .u8 m] 5)) = .ok (.string (strOfNums [n, m])) (w.alloc (.cells #[.int .u8 n, .int .u8 m] 5)) := by
  refine run_convert_bytes_arg _ 132 5 (by kernel_rfl) (by kernel_rfl) w.heap.size 0 2 2 [n, m] rfl (fun i hi => ?_) 9 (by kernel_rfl)
  obtain rfl | rfl : i = 0 ∨ i = 1 := by omega
  all_goals
    have h := heap_alloc_new w (.cells #[.int .u8 n, .int .u8 m] 5)
    unfold World.cell?
    simp only [h]
    rfl

/-- the name of the group of number n -/
def nameB (n : Nat) : ByteArray := ⟨#[103, UInt8.ofNat (97 + n)]⟩

set_option maxRecDepth 100000 in
set_option maxHeartbeats 1000000 in
theorem name_any (n : Nat) (hn : n < 6) (w : World) : Calls Try.prog 29 #[.int .i64 n] w fun e w' => e = .returned (.string (nameB n)) ∧ Below w.heap.size w w' := by
  have hcv := run_str1 w
  have h : n = 0 ∨ n = 1 ∨ n = 2 ∨ n = 3 ∨ n = 4 ∨ n = 5 := by omega
  rcases h with rfl | rfl | rfl | rfl | rfl | rfl
  all_goals
    go_enter Try.func29, Try.ntmps29
    go_wp2
    go_ret
    exact ⟨rfl, (Below.refl _ _).alloc (Nat.le_refl _) _⟩

set_option maxHeartbeats 1000000 in
theorem pickk_same (c n : Int) (w : World) (h0 : -9223372036854775808 ≤ c) (h1 : c ≤ 9223372036854775807) (hn : 1 ≤ n) (hn1 : n ≤ 9223372036854775807) :
    Calls Try.prog 24 #[.int .i64 c, .int .i64 n] w fun e w' => e = .returned (.int .i64 (pickQ c n)) ∧ w' = w := by
  by_cases hc : c < 0
  · go_enter Try.func24, Try.ntmps24
    go_wp2
    go_ret
    exact ⟨by simp [pickQ, hc], rfl⟩
  · go_enter Try.func24, Try.ntmps24
    go_wp2
    go_ret
    refine ⟨?_, rfl⟩
    rw [pickQ, if_neg (by omega), Int.tmod_eq_emod_of_nonneg hc]; rfl

end Go.Proofs.Ytgcbooflhdjnhaa

/- A run of package quaykeep in memory, and its tick. -/
namespace Go.Proofs.Ytgcbooflhdjnhaa
open Go.RowKit

/-- what a run holds: its groups as RG: items are the cells of 'seen', dead the cells of 'last' -/
structure RV where
  c : Conf
  bodies : List Value
  floor : Int
  groups : List RG
  time : Int
  ok : Bool
  right : Bool
  kept : Bool

/-- the blocks of the run of number i -/
def RT (i : Nat) (t : Tag) : Prop := 20 ≤ t.c ∧ t.c ≤ 24 ∧ t.i = i
abbrev Tag.run (i : Nat) : Tag := ⟨20, i, 0, 0⟩
abbrev Tag.rbod (i : Nat) : Tag := ⟨21, i, 0, 0⟩
abbrev Tag.rgrp (i : Nat) : Tag := ⟨22, i, 0, 0⟩
abbrev Tag.rseen (i k : Nat) : Tag := ⟨23, i, k, 0⟩
abbrev Tag.rlast (i k : Nat) : Tag := ⟨24, i, k, 0⟩

def MemAt (w : World) (T : Nat → Tag) (i k : Nat) (g : RG) (n : Nat) (vi vd : Value) : Prop :=
  Row w T (.rseen i k) 124 4 vi n g.items ∧ Row w T (.rlast i k) 3 1 vd g.dead.length g.dead
theorem MemAt.step {S : Tag → Prop} {w w' : World} {T T' : Nat → Tag} {i k : Nat} {g : RG} {n : Nat} {vi vd : Value} (h : MemAt w T i k g n vi vd) (hs : Step S w T w' T') (h3 : ¬ S (.rseen i k)) (h4 : ¬ S (.rlast i k)) : MemAt w' T' i k g n vi vd :=
  ⟨h.1.step hs h3, h.2.step hs h4⟩

abbrev runCells (bx : Nat) (r : RV) (vB vG : Value) : Array Value := #[.pointer (some ⟨bx, 0, none⟩), .int .i64 r.c.l, .int .i64 r.c.d, .int .i64 r.c.s, .int .i64 r.c.k, vB, .int .i64 r.floor, vG, .int .i64 r.time, .bool r.ok, .bool r.right, .bool r.kept]

/-- The run of number i, in block b; its queue in block bx. -/
structure RunM (w : World) (T : Nat → Tag) (i b bx : Nat) (r : RV) : Prop where
  small : r.bodies.length ≤ 400
  few : r.groups.length ≤ 6
  mem : ∃ vB vG vi vd, Blk w T (.run i) b (runCells bx r vB vG) 78 ∧
    Row w T (.rbod i) 9 1 vB r.bodies.length r.bodies ∧ Row w T (.rgrp i) 83 4 vG r.groups.length (groupCells r.groups vi vd) ∧
    ∀ k g, r.groups[k]? = some g → MemAt w T i k g r.bodies.length (vi k) (vd k)

theorem RunM.step {S : Tag → Prop} {w w' : World} {T T' : Nat → Tag} {i b bx : Nat} {r : RV} (h : RunM w T i b bx r) (hs : Step S w T w' T') (hS : ∀ t, RT i t → ¬ S t) : RunM w' T' i b bx r := by
  obtain ⟨h1, h2, vB, vG, vi, vd, hB, hR, hG, hI⟩ := h
  have n : ∀ c k, 20 ≤ c → c ≤ 24 → ¬ S ⟨c, i, k, 0⟩ := fun c k a b => hS _ ⟨a, b, rfl⟩
  exact ⟨h1, h2, vB, vG, vi, vd, hB.step hs (n _ _ (by decide) (by decide)), hR.step hs (n _ _ (by decide) (by decide)), hG.step hs (n _ _ (by decide) (by decide)), fun k g hk => (hI k g hk).step hs (n _ _ (by decide) (by decide)) (n _ _ (by decide) (by decide))⟩

/-- the tags that a run's call may write: its queue's and its own -/
def UT (i : Nat) (t : Tag) : Prop := XT i t ∨ RT i t
theorem xt_rt {i j : Nat} {t : Tag} (h : RT i t) (h' : XT j t) : False := by have := h.1; have := h'.1; omega


theorem RunM.set {w : World} {T : Nat → Tag} {i b bx : Nat} {r r' : RV} (h : RunM w T i b bx r) (j : Nat) (v : Value) (hb : r'.bodies = r.bodies) (hg : r'.groups = r.groups) (hc : ∀ vB vG, (runCells bx r vB vG).setIfInBounds j v = runCells bx r' vB vG) :
    RunM (w.setCell ⟨b, j, none⟩ v) T i b bx r' ∧ Step (fun t => t = .run i) w T (w.setCell ⟨b, j, none⟩ v) T := by
  obtain ⟨h1, h2, vB, vG, vi, vd, hB, hR, hG, hI⟩ := h
  have hs : Step (fun t => t = .run i) w T (w.setCell ⟨b, j, none⟩ v) T := step_setCell w T b j v hB.1
  have hB' := hB.set j v
  rw [hc] at hB'
  refine ⟨⟨by rw [hb]; exact h1, by rw [hg]; exact h2, vB, vG, vi, vd, hB', ?_, ?_, ?_⟩, hs⟩
  · rw [hb]; exact hR.step hs (by simp)
  · rw [hg]; exact hG.step hs (by simp)
  · rw [hg, hb]
    exact fun k g hk => (hI k g hk).step hs (by simp) (by simp)
theorem RunM.setOk {w : World} {T : Nat → Tag} {i b bx : Nat} {r : RV} (h : RunM w T i b bx r) (v : Bool) : RunM (w.setCell ⟨b, 9, none⟩ (.bool v)) T i b bx { r with ok := v } ∧ Step (fun t => t = .run i) w T (w.setCell ⟨b, 9, none⟩ (.bool v)) T := h.set 9 _ rfl rfl (fun _ _ => rfl)
theorem RunM.setRight {w : World} {T : Nat → Tag} {i b bx : Nat} {r : RV} (h : RunM w T i b bx r) (v : Bool) : RunM (w.setCell ⟨b, 10, none⟩ (.bool v)) T i b bx { r with right := v } ∧ Step (fun t => t = .run i) w T (w.setCell ⟨b, 10, none⟩ (.bool v)) T := h.set 10 _ rfl rfl (fun _ _ => rfl)
theorem RunM.setKept {w : World} {T : Nat → Tag} {i b bx : Nat} {r : RV} (h : RunM w T i b bx r) (v : Bool) : RunM (w.setCell ⟨b, 11, none⟩ (.bool v)) T i b bx { r with kept := v } ∧ Step (fun t => t = .run i) w T (w.setCell ⟨b, 11, none⟩ (.bool v)) T := h.set 11 _ rfl rfl (fun _ _ => rfl)
theorem RunM.setTime {w : World} {T : Nat → Tag} {i b bx : Nat} {r : RV} (h : RunM w T i b bx r) (v : Int) : RunM (w.setCell ⟨b, 8, none⟩ (.int .i64 v)) T i b bx { r with time := v } ∧ Step (fun t => t = .run i) w T (w.setCell ⟨b, 8, none⟩ (.int .i64 v)) T := h.set 8 _ rfl rfl (fun _ _ => rfl)
theorem rt_run (i : Nat) {t : Tag} (h : t = .run i) : UT i t := by subst h; exact .inr ⟨by simp, by simp, rfl⟩
theorem xt_run {i j : Nat} : ∀ t, XT j t → ¬ t = .run i := by rintro t h rfl; exact absurd h.1 (by simp)

attribute [local go_sem] over_cell

set_option maxRecDepth 100000 in
set_option maxHeartbeats 4000000 in
theorem rtick_any {X : World → (Nat → Tag) → Nat → Nat → MQ → Prop} {B Bm : Int} (hX : XC X Bm) (hle : B ≤ Bm) (hlm : B ≤ 3999999999999940000) (i b bx : Nat) (m : MQ) (r : RV) (ms : Int) (w : World) (T : Nat → Tag) (hx : X w T i bx m) (hf : m.Fit B) (hr : RunM w T i b bx r) (hok : r.ok = true) (ht : r.time = m.time) (h0 : 0 ≤ ms) (h1 : ms ≤ 60000) :
    Calls Try.prog 63 #[.pointer (some ⟨b, 0, none⟩), .int .i64 ms] w fun e w' => e = .returned (.tuple #[]) ∧ ∃ T', Step (UT i) w T w' T' ∧ X w' T' i bx (tickM m ms) ∧ RunM w' T' i b bx { r with time := m.time + ms } ∧ (tickM m ms).Fit (B + 60000) := by
  have htm := hf.ok.time
  have hE : tickE ms = 0 := by simp [tickE, btw, h0, h1]
  have htB := hf.time
  have hnx : ∀ t, RT i t → ¬ XT i t := fun t a c => xt_rt a c
  obtain ⟨g1, g2, vB, vG, vi, vd, hB, hR, hG, hI⟩ := id hr
  have c0 := hB.cell (j := 0) rfl
  have lb := hB.lt
  simp only [List.getElem_toArray, List.getElem_cons_zero] at c0
  clear hB hR hG hI
  go_enter Try.func63, Try.ntmps63
  go_wp2_with fail
  refine (hX.tick i bx m ms _ T hx (hf.mono hle)).mono ?_
  rintro e w1 ⟨rfl, T1, hs1, hx1⟩
  have hr1 := hr.step hs1 hnx
  rw [hE]
  obtain ⟨_, _, vB, vG, vi, vd, hB, hR, hG, hI⟩ := id hr1
  have l1 := hB.lt
  have c8 := hB.cell (j := 8) rfl
  have c9 := hB.cell (j := 9) rfl
  have z8 := hB.frozen 8
  have z9 := hB.frozen 9
  simp only [List.getElem_toArray, List.getElem_cons_succ, List.getElem_cons_zero] at c8 c9
  rw [hok] at c9
  rw [ht] at c8
  clear c0 lb hr
  clear hB hR hG hI
  obtain ⟨hr2, hs2⟩ := hr1.setOk true
  obtain ⟨hr3, hs3⟩ := hr2.setTime (m.time + ms)
  go_wp2
  go_end0
  have hx2 := hX.step (hX.step hx1 hs2 xt_run) hs3 xt_run
  have e : ({ { r with ok := true } with time := m.time + ms } : RV) = { r with time := m.time + ms } := by rw [← hok]
  rw [e] at hr3
  exact ⟨rfl, T1, (hs1.mono (fun _ h => .inl h)).trans ((hs2.trans hs3).mono (fun _ h => rt_run i h)), hx2, hr3, fit_tick hf ms hlm⟩

end Go.Proofs.Ytgcbooflhdjnhaa

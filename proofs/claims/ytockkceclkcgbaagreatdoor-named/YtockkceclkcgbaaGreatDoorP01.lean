/- Contracts of the small functions of package quaykeep: names, picks, a configuration out of numbers. -/
import Derived.Test.YtockkceclkcgbaaGreatDoorT09
import Derived.Laws.BytesArg
import Derived.Test.YtockkceclkcgbaaGreatDoorT12
namespace Go.Proofs.YtockkceclkcgbaaGreatDoor
open Go.RowKit

theorem run_str1 (w : World) (n : Int) : (convert 100 9 (.slice (some ⟨w.heap.size, 0, none⟩) 1 1)).run Tryz.prog (w.alloc (.cells #[.int .u8 n] 5)) = .ok (.string (strOfNums [n])) (w.alloc (.cells #[.int .u8 n] 5)) := by
  refine run_convert_bytes_arg _ 100 5 (by kernel_rfl) (by kernel_rfl) w.heap.size 0 1 1 [n] rfl (fun i hi => ?_) 9 (by kernel_rfl)
  obtain rfl : i = 0 := by omega
  have h := heap_alloc_new w (.cells #[.int .u8 n] 5)
  unfold World.cell?
  simp only [h]
  rfl
theorem run_str2 (w : World) (n m : Int) : (convert 100 9 (.slice (some ⟨w.heap.size, 0, none⟩) 2 2)).run Tryz.prog (w.alloc (.cells #[.int .u8 n, .int .u8 m] 5)) = .ok (.string (strOfNums [n, m])) (w.alloc (.cells #[.int .u8 n, .int .u8 m] 5)) := by
  refine run_convert_bytes_arg _ 100 5 (by kernel_rfl) (by kernel_rfl) w.heap.size 0 2 2 [n, m] rfl (fun i hi => ?_) 9 (by kernel_rfl)
  obtain rfl | rfl : i = 0 ∨ i = 1 := by omega
  all_goals
    have h := heap_alloc_new w (.cells #[.int .u8 n, .int .u8 m] 5)
    unfold World.cell?
    simp only [h]
    rfl

/-- the name of the group of number n -/
def nameB (n : Nat) : ByteArray := ⟨#[103, UInt8.ofNat (97 + n)]⟩

set_option maxRecDepth 100000 in
set_option maxHeartbeats 1000000 in
theorem name_any (n : Nat) (hn : n < 6) (w : World) : Calls Tryz.prog 35 #[.int .i64 n] w fun e w' => e = .returned (.string (nameB n)) ∧ Below w.heap.size w w' := by
  have hcv := run_str1 w
  have h : n = 0 ∨ n = 1 ∨ n = 2 ∨ n = 3 ∨ n = 4 ∨ n = 5 := by omega
  rcases h with rfl | rfl | rfl | rfl | rfl | rfl
  all_goals
    go_enter Tryz.func35, Tryz.ntmps35
    go_wp2
    go_ret
    exact ⟨rfl, (Below.refl _ _).alloc (Nat.le_refl _) _⟩

set_option maxHeartbeats 1000000 in
theorem pickk_same (c n : Int) (w : World) (h0 : -9223372036854775808 ≤ c) (h1 : c ≤ 9223372036854775807) (hn : 1 ≤ n) (hn1 : n ≤ 9223372036854775807) :
    Calls Tryz.prog 33 #[.int .i64 c, .int .i64 n] w fun e w' => e = .returned (.int .i64 (pickQ c n)) ∧ w' = w := by
  by_cases hc : c < 0
  · go_enter Tryz.func33, Tryz.ntmps33
    go_wp2
    go_ret
    exact ⟨by simp [pickQ, hc], rfl⟩
  · go_enter Tryz.func33, Tryz.ntmps33
    go_wp2
    go_ret
    refine ⟨?_, rfl⟩
    rw [pickQ, if_neg (by omega), Int.tmod_eq_emod_of_nonneg hc]; rfl

end Go.Proofs.YtockkceclkcgbaaGreatDoor

/- The contracts that a queue must keep, with what its log comes to shown (F: what each call makes of it). -/
namespace Go.Proofs.YtockkceclkcgbaaGreatDoor
open Go.RowKit

/-- what each call makes of a log -/
structure GF (G : Type) where
  new : Conf → G
  enq : MQ → ByteArray → G → G
  grp : MQ → ByteArray → Int → G → G
  recv : MQ → ByteArray → Int → G → G
  ack : MQ → ByteArray → Int → Int → G → G
  ret : MQ → G → G

structure XL {G : Type} (X : World → (Nat → Tag) → Nat → Nat → MQ → G → Prop) (F : GF G) (B : Int) : Prop where
  ackNo : ∀ (m : MQ) (s : ByteArray) (off tr : Int) (gh : G), leasedE m s off tr ≠ 0 → F.ack m s off tr gh = gh
  step : ∀ {S : Tag → Prop} {w w' : World} {T T' : Nat → Tag} {i b : Nat} {m : MQ} {gh : G}, X w T i b m gh → Step S w T w' T' → (∀ t, XT i t → ¬ S t) → X w' T' i b m gh
  opn : ∀ (c : Conf) (i : Nat) (w : World) (T : Nat → Tag), Calls Tryz.prog 25 #[.agg c.cells, .string ⟨#[]⟩] w fun e w' => (goodC c = false ∧ e = .returned (.tuple #[.pointer none, .int .i64 1]) ∧ Below w.heap.size w w') ∨
      (goodC c = true ∧ ∃ b T', e = .returned (.tuple #[.pointer (some ⟨b, 0, none⟩), .int .i64 0]) ∧ Step (XT i) w T w' T' ∧ X w' T' i b ⟨c, [], 0, [], 0, 0⟩ (F.new c))
  enq : ∀ (i b : Nat) (m : MQ) (s : ByteArray) {gh : G} (w : World) (T : Nat → Tag), X w T i b m gh → m.Fit B → Calls Tryz.prog 14 #[.pointer (some ⟨b, 0, none⟩), .string s] w fun e w' =>
      e = .returned (.tuple #[.int .i64 (bif decide (menqE m s = 0) then (m.bodies.length : Int) else 0), .int .i64 (menqE m s)]) ∧ ∃ T', Step (XT i) w T w' T' ∧ X w' T' i b (menqM m s) (F.enq m s gh)
  grp : ∀ (i b : Nat) (m : MQ) (s : ByteArray) (fr : Int) {gh : G} (w : World) (T : Nat → Tag), X w T i b m gh → m.Fit B → Calls Tryz.prog 74 #[.pointer (some ⟨b, 0, none⟩), .string s, .int .i64 fr] w fun e w' =>
      e = .returned (.int .i64 (mgrpE m s fr)) ∧ ∃ T', Step (XT i) w T w' T' ∧ X w' T' i b (mgrpM m s fr) (F.grp m s fr gh)
  recv : ∀ (i b : Nat) (m : MQ) (s : ByteArray) (n : Int) (t : Tag) {gh : G} (w : World) (T : Nat → Tag), X w T i b m gh → m.Fit B → Calls Tryz.prog 30 #[.pointer (some ⟨b, 0, none⟩), .string s, .int .i64 n] w fun e w' =>
      ∃ ao cap, e = .returned (.tuple #[.slice ao (recvL m s n).length cap, .int .i64 (recvE m s n)]) ∧ ∃ T', Step (XT i) w T w' T' ∧ X w' T' i b (recvM m s n) (F.recv m s n gh) ∧ Row w' T' t 82 3 (.slice ao (recvL m s n).length cap) (recvL m s n).length (dlVals (recvL m s n))
  ack : ∀ (i b : Nat) (m : MQ) (s : ByteArray) (off tr : Int) {gh : G} (w : World) (T : Nat → Tag), X w T i b m gh → m.Fit B → Calls Tryz.prog 59 #[.pointer (some ⟨b, 0, none⟩), .string s, .int .i64 off, .int .i64 tr] w fun e w' =>
      e = .returned (.int .i64 (leasedE m s off tr)) ∧ ∃ T', Step (XT i) w T w' T' ∧ X w' T' i b (ackM m s off tr) (F.ack m s off tr gh)
  nack : ∀ (i b : Nat) (m : MQ) (s : ByteArray) (off tr d : Int) {gh : G} (w : World) (T : Nat → Tag), X w T i b m gh → m.Fit B → Calls Tryz.prog 108 #[.pointer (some ⟨b, 0, none⟩), .string s, .int .i64 off, .int .i64 tr, .int .i64 d] w fun e w' =>
      e = .returned (.int .i64 (rangedE m s off tr d 0)) ∧ ∃ T', Step (XT i) w T w' T' ∧ X w' T' i b (nackM m s off tr d) gh
  tick : ∀ (i b : Nat) (m : MQ) (d : Int) {gh : G} (w : World) (T : Nat → Tag), X w T i b m gh → m.Fit B → Calls Tryz.prog 55 #[.pointer (some ⟨b, 0, none⟩), .int .i64 d] w fun e w' =>
      e = .returned (.int .i64 (tickE d)) ∧ ∃ T', Step (XT i) w T w' T' ∧ X w' T' i b (tickM m d) gh
  done : ∀ (i b : Nat) (m : MQ) (s : ByteArray) (t : Tag) {gh : G} (w : World) (T : Nat → Tag), X w T i b m gh → m.Fit B → Calls Tryz.prog 28 #[.pointer (some ⟨b, 0, none⟩), .string s] w fun e w' =>
      ∃ ao cap, e = .returned (.tuple #[.slice ao (doneL m s).length cap, .int .i64 (doneE m s)]) ∧ ∃ T', Step (XT i) w T w' T' ∧ X w' T' i b m gh ∧ Row w' T' t 69 2 (.slice ao (doneL m s).length cap) (doneL m s).length (pairVals (doneL m s))
  dead : ∀ (i b : Nat) (m : MQ) (s : ByteArray) (t : Tag) {gh : G} (w : World) (T : Nat → Tag), X w T i b m gh → m.Fit B → Calls Tryz.prog 29 #[.pointer (some ⟨b, 0, none⟩), .string s] w fun e w' =>
      ∃ ao cap, e = .returned (.tuple #[.slice ao (deadL m s).length cap, .int .i64 (doneE m s)]) ∧ ∃ T', Step (XT i) w T w' T' ∧ X w' T' i b m gh ∧ Row w' T' t 82 3 (.slice ao (deadL m s).length cap) (deadL m s).length (dlVals (deadL m s))
  span : ∀ (i b : Nat) (m : MQ) {gh : G} (w : World) (T : Nat → Tag), X w T i b m gh → m.Fit B → Calls Tryz.prog 24 #[.pointer (some ⟨b, 0, none⟩)] w fun e w' =>
      e = .returned (.agg #[.int .i64 m.floor, .int .i64 m.bodies.length]) ∧ ∃ T', Step (XT i) w T w' T' ∧ X w' T' i b m gh
  ret : ∀ (i b : Nat) (m : MQ) {gh : G} (w : World) (T : Nat → Tag), X w T i b m gh → m.Fit B → Calls Tryz.prog 60 #[.pointer (some ⟨b, 0, none⟩)] w fun e w' =>
      e = .returned (.int .i64 (retainN m)) ∧ ∃ T', Step (XT i) w T w' T' ∧ X w' T' i b (retainM m) (F.ret m gh)

end Go.Proofs.YtockkceclkcgbaaGreatDoor

/- A run of package quaykeep in memory, and its tick. -/
namespace Go.Proofs.YtockkceclkcgbaaGreatDoor
open Go.RowKit

/-- what a run holds: its groups as RG: items are the cells of 'seen', dead the cells of 'last' -/
structure RV where
  c : Conf
  bodies : List Value
  floor : Int
  groups : List RG
  time : Int
  ok : Bool
  right : Bool
  kept : Bool

/-- the blocks of the run of number i -/
def RT (i : Nat) (t : Tag) : Prop := 20 ≤ t.c ∧ t.c ≤ 24 ∧ t.i = i
abbrev Tag.run (i : Nat) : Tag := ⟨20, i, 0, 0⟩
abbrev Tag.rbod (i : Nat) : Tag := ⟨21, i, 0, 0⟩
abbrev Tag.rgrp (i : Nat) : Tag := ⟨22, i, 0, 0⟩
abbrev Tag.rseen (i k : Nat) : Tag := ⟨23, i, k, 0⟩
abbrev Tag.rlast (i k : Nat) : Tag := ⟨24, i, k, 0⟩

def MemAt (w : World) (T : Nat → Tag) (i k : Nat) (g : RG) (n : Nat) (vi vd : Value) : Prop :=
  Row w T (.rseen i k) 67 4 vi n g.items ∧ Row w T (.rlast i k) 3 1 vd g.dead.length g.dead
theorem MemAt.step {S : Tag → Prop} {w w' : World} {T T' : Nat → Tag} {i k : Nat} {g : RG} {n : Nat} {vi vd : Value} (h : MemAt w T i k g n vi vd) (hs : Step S w T w' T') (h3 : ¬ S (.rseen i k)) (h4 : ¬ S (.rlast i k)) : MemAt w' T' i k g n vi vd :=
  ⟨h.1.step hs h3, h.2.step hs h4⟩

abbrev runCells (bx : Nat) (r : RV) (vB vG : Value) : Array Value := #[.pointer (some ⟨bx, 0, none⟩), .int .i64 r.c.l, .int .i64 r.c.d, .int .i64 r.c.s, .int .i64 r.c.k, vB, .int .i64 r.floor, vG, .int .i64 r.time, .bool r.ok, .bool r.right, .bool r.kept]

/-- The run of number i, in block b; its queue in block bx. -/
structure RunM (w : World) (T : Nat → Tag) (i b bx : Nat) (r : RV) : Prop where
  small : r.bodies.length ≤ 400
  few : r.groups.length ≤ 6
  mem : ∃ vB vG vi vd, Blk w T (.run i) b (runCells bx r vB vG) 57 ∧
    Row w T (.rbod i) 9 1 vB r.bodies.length r.bodies ∧ Row w T (.rgrp i) 63 4 vG r.groups.length (groupCells r.groups vi vd) ∧
    ∀ k g, r.groups[k]? = some g → MemAt w T i k g r.bodies.length (vi k) (vd k)

theorem RunM.step {S : Tag → Prop} {w w' : World} {T T' : Nat → Tag} {i b bx : Nat} {r : RV} (h : RunM w T i b bx r) (hs : Step S w T w' T') (hS : ∀ t, RT i t → ¬ S t) : RunM w' T' i b bx r := by
  obtain ⟨h1, h2, vB, vG, vi, vd, hB, hR, hG, hI⟩ := h
  have n : ∀ c k, 20 ≤ c → c ≤ 24 → ¬ S ⟨c, i, k, 0⟩ := fun c k a b => hS _ ⟨a, b, rfl⟩
  exact ⟨h1, h2, vB, vG, vi, vd, hB.step hs (n _ _ (by decide) (by decide)), hR.step hs (n _ _ (by decide) (by decide)), hG.step hs (n _ _ (by decide) (by decide)), fun k g hk => (hI k g hk).step hs (n _ _ (by decide) (by decide)) (n _ _ (by decide) (by decide))⟩

/-- the tags that a run's call may write: its queue's and its own -/
def UT (i : Nat) (t : Tag) : Prop := XT i t ∨ RT i t
theorem xt_rt {i j : Nat} {t : Tag} (h : RT i t) (h' : XT j t) : False := by have := h.1; have := h'.1; omega


theorem RunM.set {w : World} {T : Nat → Tag} {i b bx : Nat} {r r' : RV} (h : RunM w T i b bx r) (j : Nat) (v : Value) (hb : r'.bodies = r.bodies) (hg : r'.groups = r.groups) (hc : ∀ vB vG, (runCells bx r vB vG).setIfInBounds j v = runCells bx r' vB vG) :
    RunM (w.setCell ⟨b, j, none⟩ v) T i b bx r' ∧ Step (fun t => t = .run i) w T (w.setCell ⟨b, j, none⟩ v) T := by
  obtain ⟨h1, h2, vB, vG, vi, vd, hB, hR, hG, hI⟩ := h
  have hs : Step (fun t => t = .run i) w T (w.setCell ⟨b, j, none⟩ v) T := step_setCell w T b j v hB.1
  have hB' := hB.set j v
  rw [hc] at hB'
  refine ⟨⟨by rw [hb]; exact h1, by rw [hg]; exact h2, vB, vG, vi, vd, hB', ?_, ?_, ?_⟩, hs⟩
  · rw [hb]; exact hR.step hs (by simp)
  · rw [hg]; exact hG.step hs (by simp)
  · rw [hg, hb]
    exact fun k g hk => (hI k g hk).step hs (by simp) (by simp)
theorem RunM.setOk {w : World} {T : Nat → Tag} {i b bx : Nat} {r : RV} (h : RunM w T i b bx r) (v : Bool) : RunM (w.setCell ⟨b, 9, none⟩ (.bool v)) T i b bx { r with ok := v } ∧ Step (fun t => t = .run i) w T (w.setCell ⟨b, 9, none⟩ (.bool v)) T := h.set 9 _ rfl rfl (fun _ _ => rfl)
theorem RunM.setRight {w : World} {T : Nat → Tag} {i b bx : Nat} {r : RV} (h : RunM w T i b bx r) (v : Bool) : RunM (w.setCell ⟨b, 10, none⟩ (.bool v)) T i b bx { r with right := v } ∧ Step (fun t => t = .run i) w T (w.setCell ⟨b, 10, none⟩ (.bool v)) T := h.set 10 _ rfl rfl (fun _ _ => rfl)
theorem RunM.setKept {w : World} {T : Nat → Tag} {i b bx : Nat} {r : RV} (h : RunM w T i b bx r) (v : Bool) : RunM (w.setCell ⟨b, 11, none⟩ (.bool v)) T i b bx { r with kept := v } ∧ Step (fun t => t = .run i) w T (w.setCell ⟨b, 11, none⟩ (.bool v)) T := h.set 11 _ rfl rfl (fun _ _ => rfl)
theorem RunM.setTime {w : World} {T : Nat → Tag} {i b bx : Nat} {r : RV} (h : RunM w T i b bx r) (v : Int) : RunM (w.setCell ⟨b, 8, none⟩ (.int .i64 v)) T i b bx { r with time := v } ∧ Step (fun t => t = .run i) w T (w.setCell ⟨b, 8, none⟩ (.int .i64 v)) T := h.set 8 _ rfl rfl (fun _ _ => rfl)
theorem rt_run (i : Nat) {t : Tag} (h : t = .run i) : UT i t := by subst h; exact .inr ⟨by simp, by simp, rfl⟩
theorem xt_run {i j : Nat} : ∀ t, XT j t → ¬ t = .run i := by rintro t h rfl; exact absurd h.1 (by simp)

attribute [local go_sem] over_cell

set_option maxRecDepth 100000 in
set_option maxHeartbeats 4000000 in
theorem rtick_any {G : Type} {X : World → (Nat → Tag) → Nat → Nat → MQ → G → Prop} {F : GF G} {B Bm : Int} (hX : XL X F Bm) (hle : B ≤ Bm) (hlm : B ≤ 3999999999999940000) (i b bx : Nat) (m : MQ) (r : RV) (ms : Int) (w : World) (T : Nat → Tag) {gh : G} (hx : X w T i bx m gh) (hf : m.Fit B) (hr : RunM w T i b bx r) (hok : r.ok = true) (ht : r.time = m.time) (h0 : 0 ≤ ms) (h1 : ms ≤ 60000) :
    Calls Tryz.prog 20 #[.pointer (some ⟨b, 0, none⟩), .int .i64 ms] w fun e w' => e = .returned (.tuple #[]) ∧ ∃ T', Step (UT i) w T w' T' ∧ X w' T' i bx (tickM m ms) gh ∧ RunM w' T' i b bx { r with time := m.time + ms } ∧ (tickM m ms).Fit (B + 60000) := by
  have htm := hf.ok.time
  have hE : tickE ms = 0 := by simp [tickE, btw, h0, h1]
  have htB := hf.time
  have hnx : ∀ t, RT i t → ¬ XT i t := fun t a c => xt_rt a c
  obtain ⟨g1, g2, vB, vG, vi, vd, hB, hR, hG, hI⟩ := id hr
  have c0 := hB.cell (j := 0) rfl
  have lb := hB.lt
  simp only [List.getElem_toArray, List.getElem_cons_zero] at c0
  clear hB hR hG hI
  go_enter Tryz.func20, Tryz.ntmps20
  go_wp2_with fail
  refine (hX.tick i bx m ms _ T hx (hf.mono hle)).mono ?_
  rintro e w1 ⟨rfl, T1, hs1, hx1⟩
  have hr1 := hr.step hs1 hnx
  rw [hE]
  obtain ⟨_, _, vB, vG, vi, vd, hB, hR, hG, hI⟩ := id hr1
  have l1 := hB.lt
  have c8 := hB.cell (j := 8) rfl
  have c9 := hB.cell (j := 9) rfl
  have z8 := hB.frozen 8
  have z9 := hB.frozen 9
  simp only [List.getElem_toArray, List.getElem_cons_succ, List.getElem_cons_zero] at c8 c9
  rw [hok] at c9
  rw [ht] at c8
  clear c0 lb hr
  clear hB hR hG hI
  obtain ⟨hr2, hs2⟩ := hr1.setOk true
  obtain ⟨hr3, hs3⟩ := hr2.setTime (m.time + ms)
  go_wp2
  go_end0
  have hx2 := hX.step (hX.step hx1 hs2 xt_run) hs3 xt_run
  have e : ({ { r with ok := true } with time := m.time + ms } : RV) = { r with time := m.time + ms } := by rw [← hok]
  rw [e] at hr3
  exact ⟨rfl, T1, (hs1.mono (fun _ h => .inl h)).trans ((hs2.trans hs3).mono (fun _ h => rt_run i h)), hx2, hr3, fit_tick hf ms hlm⟩

end Go.Proofs.YtockkceclkcgbaaGreatDoor

/- A run of package quaykeep as plain mathematics: what was seen of a queue, held against the queue itself. A run's own state is written as a queue (MQ) whose groups hold what was seen, and, in the place of the dead, what was delivered last. -/
namespace Go.Proofs.YtockkceclkcgbaaGreatDoor
open Go.RowKit

/-- the cells of what was seen -/
def seenVals : List It → List Value
  | [] => []
  | x :: r => .int .i64 x.tries :: .bool (decide (0 < x.done)) :: .int .i64 x.till :: .int .i64 x.after :: seenVals r
theorem seenVals_length : ∀ l : List It, (seenVals l).length = l.length * 4
  | [] => rfl
  | x :: r => by simp [seenVals, seenVals_length r]; omega
theorem seenVals_at : ∀ (l : List It) (n : Nat) (x : It), l[n]? = some x →
    (seenVals l)[n * 4]? = some (.int .i64 x.tries) ∧ (seenVals l)[n * 4 + 1]? = some (.bool (decide (0 < x.done))) ∧ (seenVals l)[n * 4 + 2]? = some (.int .i64 x.till) ∧ (seenVals l)[n * 4 + 3]? = some (.int .i64 x.after)
  | [], _, _, h => by simp at h
  | y :: r, 0, x, h => by simp at h; subst h; simp [seenVals]
  | y :: r, n + 1, x, h => by
    have h2 := seenVals_at r n x (by simpa using h)
    have e : ∀ j, (n + 1) * 4 + j = (n * 4 + j) + 4 := fun j => by omega
    refine ⟨?_, ?_, ?_, ?_⟩
    · rw [show (n + 1) * 4 = n * 4 + 4 by omega]; simpa [seenVals] using h2.1
    · rw [e]; simpa [seenVals] using h2.2.1
    · rw [e]; simpa [seenVals] using h2.2.2.1
    · rw [e]; simpa [seenVals] using h2.2.2.2
theorem seenVals_append : ∀ a b : List It, seenVals (a ++ b) = seenVals a ++ seenVals b
  | [], _ => rfl
  | x :: r, b => by simp [seenVals, seenVals_append r b]
theorem seenVals_set : ∀ (l : List It) (n : Nat) (x : It), l[n]? = some x →
    (∀ v, (seenVals l).set (n * 4) (.int .i64 v) = seenVals (l.set n { x with tries := v })) ∧ (∀ v : Int, (seenVals l).set (n * 4 + 1) (.bool (decide (0 < v))) = seenVals (l.set n { x with done := v })) ∧
    (∀ v, (seenVals l).set (n * 4 + 2) (.int .i64 v) = seenVals (l.set n { x with till := v })) ∧ (∀ v, (seenVals l).set (n * 4 + 3) (.int .i64 v) = seenVals (l.set n { x with after := v }))
  | [], _, _, h => by simp at h
  | y :: r, 0, x, h => by simp at h; subst h; simp [seenVals]
  | y :: r, n + 1, x, h => by
    have h2 := seenVals_set r n x (by simpa using h)
    have e : ∀ j, (n + 1) * 4 + j = (n * 4 + j) + 4 := fun j => by omega
    refine ⟨fun v => ?_, fun v => ?_, fun v => ?_, fun v => ?_⟩
    · rw [show (n + 1) * 4 = n * 4 + 4 by omega]; simp only [seenVals, List.set_cons_succ, h2.1]
    · rw [e]; simp only [seenVals, List.set_cons_succ, h2.2.1]
    · rw [e]; simp only [seenVals, List.set_cons_succ, h2.2.2.1]
    · rw [e]; simp only [seenVals, List.set_cons_succ, h2.2.2.2]
/-- only the sign of 'done' is seen -/
theorem seenVals_sign : ∀ (a b : List It), a.length = b.length → (∀ (n : Nat) (x y : It), a[n]? = some x → b[n]? = some y → x.tries = y.tries ∧ x.till = y.till ∧ x.after = y.after ∧ decide (0 < x.done) = decide (0 < y.done)) → seenVals a = seenVals b
  | [], [], _, _ => rfl
  | [], _ :: _, h, _ => by simp at h
  | _ :: _, [], h, _ => by simp at h
  | x :: r, y :: s, h, hh => by
    obtain ⟨h1, h2, h3, h4⟩ := hh 0 x y rfl rfl
    simp only [seenVals, h1, h2, h3, h4]
    rw [seenVals_sign r s (by simpa using h) (fun n a b ha hb => hh (n + 1) a b (by simpa using ha) (by simpa using hb))]

/-- how often messages were delivered, together -/
def tsum (l : List It) : Nat := (l.map (fun x => x.tries.toNat)).sum
theorem tsum_append (a b : List It) : tsum (a ++ b) = tsum a + tsum b := by simp [tsum]
theorem tsum_set : ∀ (l : List It) (n : Nat) (x y : It), l[n]? = some x → tsum (l.set n y) + x.tries.toNat = tsum l + y.tries.toNat
  | [], n, x, y, h => by simp at h
  | z :: r, 0, x, y, h => by
    simp at h
    subst h
    simp [tsum]
    omega
  | z :: r, n + 1, x, y, h => by
    have ih := tsum_set r n x y (by simpa using h)
    simp [tsum] at ih ⊢
    omega
theorem tsum_le (d : Int) : ∀ l : List It, (∀ x ∈ l, x.tries ≤ d) → tsum l ≤ l.length * d.toNat
  | [], _ => by simp [tsum]
  | x :: r, h => by
    have ih := tsum_le d r (fun y hy => h y (by simp [hy]))
    have h1 := h x (by simp)
    simp only [tsum, List.map_cons, List.sum_cons, List.length_cons, Nat.succ_mul] at ih ⊢
    omega
theorem tsum_zeros (n : Nat) : tsum (List.replicate n It.zero) = 0 := by simp [tsum]

/-- What holds of the messages of a group. -/
structure NiceI (m : MQ) (start : Int) (l : List It) : Prop where
  done : ∀ (n : Nat) x, l[n]? = some x → 0 ≤ x.done
  tries : ∀ (n : Nat) x, l[n]? = some x → 0 ≤ x.tries ∧ x.tries ≤ m.c.d
  since : ∀ (n : Nat) x, l[n]? = some x → 0 < x.done → start ≤ n
  low : ∀ (n : Nat) x, l[n]? = some x → start ≤ n → (n : Int) < m.floor → 0 < x.done

theorem NiceI.set {m : MQ} {start : Int} {l : List It} {n : Nat} {x y : It} (h : NiceI m start l) (hx : l[n]? = some x) (h0 : 0 ≤ y.done) (h1 : 0 ≤ y.tries ∧ y.tries ≤ m.c.d) (h2 : 0 < y.done → start ≤ n) (h3 : 0 < x.done → 0 < y.done) : NiceI m start (l.set n y) := by
  have hn := (List.getElem?_eq_some_iff.1 hx).1
  have key : ∀ (P : Nat → It → Prop), (∀ j z, l[j]? = some z → P j z) → P n y → ∀ j z, (l.set n y)[j]? = some z → P j z := by
    intro P hP hy j z hz
    rw [List.getElem?_set] at hz
    by_cases hj : n = j
    · subst hj
      simp [hn] at hz
      subst hz
      exact hy
    · rw [if_neg hj] at hz
      exact hP j z hz
  exact ⟨key _ h.done h0, key _ h.tries h1, key _ h.since h2, key _ h.low (fun a b => h3 (h.low n x hx a b))⟩

/-- one delivery may be -/
def okD (m : MQ) (start : Int) (l : List It) (d : Dl) : Prop :=
  ∃ (n : Nat) (x : It), d.off = n ∧ l[n]? = some x ∧ m.floor ≤ n ∧ start ≤ n ∧ n < m.bodies.length ∧ ¬ 0 < x.done ∧ x.till ≤ m.time ∧ x.after ≤ m.time ∧ 0 ≤ x.tries ∧ d.tr = x.tries + 1 ∧ d.tr ≤ m.c.d ∧ d.body = m.bodies.getD n ⟨#[]⟩
/-- what was seen, behind one delivery -/
def tookI (m : MQ) (l : List It) (d : Dl) : List It := match l[d.off.toNat]? with
  | none => l
  | some x => l.set d.off.toNat { x with tries := d.tr, till := m.time + m.c.l }
theorem tookI_at {m : MQ} {l : List It} {d : Dl} {n : Nat} {x : It} (hd : d.off = n) (hx : l[n]? = some x) : tookI m l d = l.set n { x with tries := d.tr, till := m.time + m.c.l } := by
  simp [tookI, hd, hx]
def tookAll (m : MQ) : List It → List Dl → List It
  | l, [] => l
  | l, d :: r => tookAll m (tookI m l d) r
def okAll (m : MQ) (start : Int) : List It → List Dl → Prop
  | _, [] => True
  | l, d :: r => okD m start l d ∧ okAll m start (tookI m l d) r
theorem tookAll_snoc (m : MQ) : ∀ (r : List Dl) (l : List It) (d : Dl), tookAll m l (r ++ [d]) = tookI m (tookAll m l r) d
  | [], _, _ => rfl
  | _ :: r, l, d => by simp [tookAll, tookAll_snoc m r]
theorem okAll_snoc (m : MQ) (start : Int) : ∀ (r : List Dl) (l : List It) (d : Dl), okAll m start l (r ++ [d]) ↔ okAll m start l r ∧ okD m start (tookAll m l r) d
  | [], _, _ => by simp [okAll, tookAll]
  | e :: r, l, d => by simp [okAll, tookAll, okAll_snoc m start r, and_assoc]

/-- what was seen, against the messages themselves: the same, but for those that died unseen -/
def SimI (m : MQ) (start : Int) (dead : List Nat) (u l : List It) : Prop :=
  u.length = l.length ∧ ∀ (n : Nat) x, l[n]? = some x → ∃ y, u[n]? = some y ∧ (y = x ∨ (y = { x with done := y.done } ∧ y.done ≤ 0 ∧ 0 < x.done ∧ n ∈ dead ∧ x.tries = m.c.d ∧ start ≤ n))
theorem SimI.refl (m : MQ) (start : Int) (dead : List Nat) (l : List It) : SimI m start dead l l := ⟨rfl, fun _ x h => ⟨x, h, .inl rfl⟩⟩

/-- what a Receive has made so far, against what is seen of it -/
structure SimR (m : MQ) (g : MG) (st : RS) : Prop where
  nice : NiceI m g.start st.items
  len : st.items.length = m.bodies.length
  ok : okAll m g.start g.items st.out
  sim : SimI m g.start st.dead (tookAll m g.items st.out) st.items
  sum : tsum st.items = tsum g.items + st.out.length

theorem wrap_small {x : Int} (h0 : 0 ≤ x) (h1 : x ≤ 100) : wrap64 (x + 1) = x + 1 := by
  unfold wrap64
  omega

theorem sim_one {m : MQ} {g : MG} {st : RS} {n : Nat} {x : It} (hd : 1 ≤ m.c.d ∧ m.c.d ≤ 10) (h : SimR m g st) (hx : st.items[n]? = some x) : SimR m g (recvOne m g.start st n x) := by
  have hn := (List.getElem?_eq_some_iff.1 hx).1
  have hlen := h.len
  unfold recvOne
  cases hp : passed m g.start n x with
  | true => exact h
  | false =>
    simp only [passed, Bool.or_eq_false_iff, decide_eq_false_iff_not] at hp
    obtain ⟨⟨⟨⟨p1, p2⟩, p3⟩, p4⟩, p5⟩ := hp
    have ht := h.nice.tries n x hx
    have h0 := h.nice.done n x hx
    obtain ⟨y, hy, hyx⟩ := h.sim.2 n x hx
    have hyx' : y = x := by
      rcases hyx with e | ⟨_, _, e, _⟩
      · exact e
      · exact absurd e p3
    subst hyx'
    simp only [cond_false]
    by_cases hE : m.c.d ≤ y.tries
    · simp only [hE, decide_true, cond_true]
      refine ⟨h.nice.set hx (by simp) ht (fun _ => by omega) (fun _ => by simp), by simp [hlen], h.ok, ⟨by simp [h.sim.1], fun j z hz => ?_⟩, ?_⟩
      · rw [List.getElem?_set] at hz
        by_cases hj : n = j
        · subst hj
          simp [hn] at hz
          subst hz
          exact ⟨y, hy, .inr ⟨rfl, by omega, by simp, by simp, by simp; omega, by omega⟩⟩
        · rw [if_neg hj] at hz
          obtain ⟨y', hy', e⟩ := h.sim.2 j z hz
          refine ⟨y', hy', ?_⟩
          rcases e with e | ⟨e1, e2, e3, e4, e5⟩
          · exact .inl e
          · exact .inr ⟨e1, e2, e3, by simp [e4], e5⟩
      · have := tsum_set st.items n y { y with done := 2 } hx
        have := h.sum
        simp only at *
        omega
    · simp only [hE, decide_false, cond_false]
      have hw : wrap64 (y.tries + 1) = y.tries + 1 := wrap_small ht.1 (by omega)
      rw [hw]
      have hok : okD m g.start (tookAll m g.items st.out) ⟨n, y.tries + 1, m.bodies.getD n ⟨#[]⟩⟩ :=
        ⟨n, y, rfl, hy, by omega, by omega, by omega, p3, by omega, by omega, ht.1, rfl, by simp; omega, rfl⟩
      have hl : (tookAll m g.items st.out).length = st.items.length := h.sim.1
      refine ⟨h.nice.set hx h0 ⟨by simp; omega, by simp; omega⟩ (fun e => absurd e p3) (fun e => e), by simp [hlen], (okAll_snoc _ _ _ _ _).2 ⟨h.ok, hok⟩, ?_, ?_⟩
      · rw [tookAll_snoc, tookI_at (n := n) rfl hy]
        refine ⟨by simp [hl], fun j z hz => ?_⟩
        rw [List.getElem?_set] at hz ⊢
        by_cases hj : n = j
        · subst hj
          simp [hn] at hz
          subst hz
          exact ⟨_, by simp [hl, hn], .inl rfl⟩
        · rw [if_neg hj] at hz ⊢
          exact h.sim.2 j z hz
      · have := tsum_set st.items n y { y with tries := y.tries + 1, till := m.time + m.c.l } hx
        have := h.sum
        simp only [List.length_append, List.length_cons, List.length_nil] at *
        omega
theorem sim_step {m : MQ} {g : MG} {fr : List Nat} {st : RS} {k : Nat} (hd : 1 ≤ m.c.d ∧ m.c.d ≤ 10) (h : SimR m g st) : SimR m g (recvStep m g.start fr st k) := by
  unfold recvStep
  cases decide (k < m.bodies.length)
  · simp only [cond_false]
    cases fr[k - m.bodies.length]? with
    | none => exact h
    | some n =>
      simp only
      cases hx : st.items[n]? with
      | none => exact h
      | some x => exact sim_one hd h hx
  · simp only [cond_true]
    cases hx : st.items[k]? with
    | none => exact h
    | some x =>
      simp only
      cases decide (x.tries = 0)
      · exact sim_one hd h hx
      · exact h
theorem sim_run {m : MQ} {g : MG} {fr : List Nat} {n : Int} (hd : 1 ≤ m.c.d ∧ m.c.d ≤ 10) : ∀ (f k : Nat) (st : RS), SimR m g st → SimR m g (recvRun m g.start fr n f k st)
  | 0, _, _, h => h
  | f + 1, k, st, h => by
    unfold recvRun
    cases decide (n ≤ st.out.length)
    · exact sim_run hd f (k + 1) _ (sim_step hd h)
    · exact h
theorem sim_all {m : MQ} {g : MG} {n : Int} (hd : 1 ≤ m.c.d ∧ m.c.d ≤ 10) (h : NiceI m g.start g.items) (hl : g.items.length = m.bodies.length) : SimR m g (recvAll m g n) :=
  sim_run hd _ _ _ ⟨h, hl, trivial, SimI.refl _ _ _ _, by simp⟩

/-- no more are delivered than were asked for -/
theorem out_one {m : MQ} {start : Int} {st : RS} {n : Nat} {x : It} : (recvOne m start st n x).out.length ≤ st.out.length + 1 := by
  unfold recvOne
  cases passed m start n x
  · cases decide (m.c.d ≤ x.tries) <;> simp
  · simp
theorem out_step {m : MQ} {start : Int} {fr : List Nat} {st : RS} {k : Nat} : (recvStep m start fr st k).out.length ≤ st.out.length + 1 := by
  unfold recvStep
  cases decide (k < m.bodies.length)
  · simp only [cond_false]
    cases fr[k - m.bodies.length]? with
    | none => simp
    | some n =>
      simp only
      cases st.items[n]? with
      | none => simp
      | some x => exact out_one
  · simp only [cond_true]
    cases st.items[k]? with
    | none => simp
    | some x =>
      simp only
      cases decide (x.tries = 0)
      · exact out_one
      · simp
theorem out_run {m : MQ} {start : Int} {fr : List Nat} {n : Int} : ∀ (f k : Nat) (st : RS), (st.out.length : Int) ≤ n → ((recvRun m start fr n f k st).out.length : Int) ≤ n
  | 0, _, _, h => h
  | f + 1, k, st, h => by
    unfold recvRun
    by_cases hE : n ≤ st.out.length
    · simp only [hE, decide_true, cond_true]; exact h
    · simp only [hE, decide_false, cond_false]
      have := out_step (m := m) (start := start) (fr := fr) (st := st) (k := k)
      exact out_run f (k + 1) _ (by omega)
theorem out_all {m : MQ} {g : MG} {n : Int} (h : 0 ≤ n) : ((recvAll m g n).out.length : Int) ≤ n := out_run _ _ _ (by simpa using h)

end Go.Proofs.YtockkceclkcgbaaGreatDoor

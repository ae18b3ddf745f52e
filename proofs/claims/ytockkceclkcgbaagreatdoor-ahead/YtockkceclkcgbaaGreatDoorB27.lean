/- Contracts of the program's wake (through maps.DeleteFunc), mark, receipt, delivery and newGroup. -/
import Derived.Test.YtockkceclkcgbaaGreatDoorB26
import Derived.Deep.RegionHeld3
namespace Go.Proofs.YtockkceclkcgbaaGreatDoor
open Go.RowKit Go.Maps

attribute [local go_sem] over_cell

set_option maxHeartbeats 1000000 in
theorem wake1_any (n : Int) (u : Int × Bool) (nb : Nat) (now : Int) (w : World) (hlt : nb < w.heap.size) (hc : w.cell? ⟨nb, 0, none⟩ = some (.int .i64 now)) :
    Calls Tryz.prog 118 #[.int .i64 n, waitV u, .pointer (some ⟨nb, 0, none⟩)] w fun e w' => e = .returned (.bool (decide (u.1 ≤ now))) ∧ Below w.heap.size w w' := by
  go_enter Tryz.func118, Tryz.ntmps118
  go_wp2
  go_ret
  exact ⟨by first | rfl | simp, (Below.refl _ _).alloc (Nat.le_refl _) _⟩

/-- what the map holds while it is gone through: those to come are as they were, of the others those that still wait -/
def keptO (f : Int → Option (Int × Bool)) (now : Int) (left : Lit → Bool) (k : Int) : Option (Int × Bool) := bif left (.int .i64 k) then f k else (f k).filter (fun u => decide (now < u.1))
def Holds (D : DataW Unit) (f : Int → Option (Int × Bool)) (now : Int) (left : Lit → Bool) : Prop :=
  ∀ k, Maps.has D (.int .i64 k) = (keptO f now left k).isSome ∧ ∀ u, keptO f now left k = some u → ∀ z, D.atKey (.int .i64 k) z = waitD u

theorem same_int (a b : Int) (h : a ≠ b) : (Lit.int .i64 a).sameKey (.int .i64 b) = false := sameKey_ne (by simpa using h)
theorem same_int_self (a : Int) : (Lit.int .i64 a).sameKey (.int .i64 a) = true := WideAt.sameKey_self trivial

theorem Holds.found {D : DataW Unit} {f : Int → Option (Int × Bool)} {now : Int} {left : Lit → Bool} (h : Holds D f now left) {x : Int} {u : Int × Bool} (hl : left (.int .i64 x) = true) (hat : ∀ z, D.atKey (.int .i64 x) z = waitD u) : f x = some u := by
  have h1 := has_true_of_atKey hat
  obtain ⟨h2, h3⟩ := h x
  have e : keptO f now left x = f x := by simp [keptO, hl]
  rw [e] at h2 h3
  rw [h1] at h2
  cases hf : f x with
  | none => rw [hf] at h2; cases h2
  | some v =>
    have := (h3 v hf .nil).symm.trans (hat .nil)
    rw [waitD_inj this]
theorem Holds.stays {D : DataW Unit} {f : Int → Option (Int × Bool)} {now : Int} {left : Lit → Bool} (h : Holds D f now left) {x : Int} {u : Int × Bool} (hl : left (.int .i64 x) = true) (hf : f x = some u) (hu : now < u.1) : Holds D f now (fun z => left z && !z.sameKey (.int .i64 x)) := by
  intro k
  have e : keptO f now (fun z => left z && !z.sameKey (.int .i64 x)) k = keptO f now left k := by
    by_cases hk : k = x
    · subst hk; simp [keptO, same_int_self, hl, hf, hu]
    · simp [keptO, same_int k x hk]
  rw [e]
  exact h k
theorem Holds.struck {D : DataW Unit} {f : Int → Option (Int × Bool)} {now : Int} {left : Lit → Bool} (h : Holds D f now left) {x : Int} {u : Int × Bool} (hf : f x = some u) (hu : ¬ now < u.1) : Holds (D.del (.int .i64 x)) f now (fun z => left z && !z.sameKey (.int .i64 x)) := by
  intro k
  by_cases hk : k = x
  · subst hk
    have e : keptO f now (fun z => left z && !z.sameKey (.int .i64 k)) k = none := by simp [keptO, same_int_self, hf]; omega
    rw [e, has_del_same]
    exact ⟨rfl, fun u hu => by cases hu⟩
  · have e : keptO f now (fun z => left z && !z.sameKey (.int .i64 x)) k = keptO f now left k := by simp [keptO, same_int k x hk]
    rw [e, has_del_other (by simpa using hk)]
    refine ⟨(h k).1, fun u hu z => ?_⟩
    rw [atKey_del_other (by simpa using hk)]
    exact (h k).2 u hu z

theorem invK_int : ∀ key kl, keyOf Tryz.prog 3 key = some kl → ∃ x : Int, key = .int .i64 x := fun _ _ h => by
  obtain ⟨x, e, _⟩ := keyOf_int_inv Tryz.underlying3 h
  exact ⟨x, e⟩
theorem invV_wait : ∀ v (y : DataW Unit × List MemPlace), waitElem v = some y → ∃ u, v = waitV u := fun _ _ h => by
  obtain ⟨u, e, _⟩ := waitElem_inv h
  exact ⟨u, e⟩

def WaitIs (D : DataW Unit) (x u : Int) (lv : Value) : Prop := ∃ l, lv = .bool l ∧ ∀ z, D.atKey (.int .i64 x) z = waitD (u, l)
/-- the step of the loop over the map of waits -/
theorem wpList_next_waits (w : World) {ops : Array Oper} {rest : List Oper} {o : Oper} {a : Act} {Q : Exit → Act → World → Prop} (hg : o.guard = none) (it : Operand) (hop : o.op = Op.next it false) (b r n : Nat) (D : DataW Unit) (left : Lit → Bool) (cnt : Nat)
    (hit : a.eval it = .pointer (some ⟨r, 0, none⟩)) (h : w.ranges Tryz.prog 3 waitElem b r n D left cnt)
    (hDone : cnt = 0 → (∀ kl, left kl = false) → wpList Tryz.prog ops Q rest (a.put o.dst (.tuple #[.bool false])) w)
    (hMore : ∀ (x u : Int) (lv : Value) (w' : World) (cnt' : Nat), WaitIs D x u lv → Hid ((Lit.int .i64 x).wf = true) → Hid (left (.int .i64 x) = true) → w'.ranges Tryz.prog 3 waitElem b r n D (fun z => left z && !z.sameKey (.int .i64 x)) cnt' → cnt' < cnt →
      w.grownBy w' (some r) → w'.heap.size = w.heap.size → (Instr.entry (.pointer (some ⟨r, 0, none⟩))).run Tryz.prog w' = .ok (.tuple #[.int .i64 x, .agg #[.int .i64 u, lv]]) w' → wpList Tryz.prog ops Q rest (a.put o.dst (.tuple #[.bool true, .int .i64 x, .agg #[.int .i64 u, lv]])) w') :
    wpList Tryz.prog ops Q (o :: rest) a w := by
  refine wpList_next_ranges _ hg it hop 3 law3 waitElem (Value.int .i64) waitV invK_int invV_wait b r n D left cnt hit h hDone ?_
  intro x c kl y w1 cnt1 hkey hlx hv hat1 hrg1 hlt hg1 hs1 hen
  obtain ⟨x', ex, rfl, hwx⟩ := keyOf_int_inv Tryz.underlying3 hkey
  cases ex
  obtain ⟨⟨u', l'⟩, ec, rfl⟩ := waitElem_inv hv
  obtain ⟨u, l⟩ := c
  have e : u = u' ∧ l = l' := by simpa using ec
  obtain ⟨rfl, rfl⟩ := e
  exact hMore x u (.bool l) w1 cnt1 ⟨l, rfl, hat1⟩ (hide hwx) (hide hlx) hrg1 hlt hg1 hs1 hen

set_option maxRecDepth 100000 in
set_option maxHeartbeats 2000000 in
theorem delFunc_any (t : Tag) (wb nb : Nat) (f : Int → Option (Int × Bool)) (now : Int) (w : World) (T : Nat → Tag) (h : WM w T t wb f) (hn : nb < w.heap.size) (hc : w.cell? ⟨nb, 0, none⟩ = some (.int .i64 now)) :
    Calls Tryz.prog 117 #[.map (some wb), .func (.func 118) #[] #[.pointer (some ⟨nb, 0, none⟩)]] w fun e w' => e = .returned (.tuple #[]) ∧
      WM w' T t wb (fun j => (f j).filter (fun u => decide (now < u.1))) ∧ Step (fun s => s = t) w T w' T := by
  obtain ⟨hT, D, hown, hhas, hat, hbd⟩ := h
  have hne : nb ≠ wb := fun e => by
    subst e
    obtain ⟨es, clock, hb, _⟩ := hown
    simp [World.cell?, hb] at hc
  go_enter Tryz.func117, Tryz.ntmps117
  go_wp2_with (first
    | (at_range; refine wpList_range_own _ rfl _ 132 rfl 3 177 law3 Tryz.underlying132 _ wb 400 _ rfl hown ?_; intro w0 hrg0 hg0 hs0)
    | go_in)
  go_frame
  go_loopw [4] (fun _ wr => ∃ (left : Lit → Bool) (cnt : Nat) (D' : DataW Unit), wr.ranges Tryz.prog 3 waitElem wb w.heap.size 400 D' left cnt ∧ w.grownBy wr (some wb) ∧ Holds D' f now left) (fun _ wr => wr.rangeLeft wb w.heap.size)
  case atStart =>
    refine ⟨_, _, D, hrg0, hg0.but _, fun k => ?_⟩
    cases hf : f k with
    | none =>
      have e : keptO f now (Maps.has D) k = none := by simp [keptO, hhas, hf]
      rw [e, hhas, hf]
      exact ⟨rfl, fun u hu => by cases hu⟩
    | some u =>
      have e : keptO f now (Maps.has D) k = some u := by simp [keptO, hhas, hf]
      rw [e, hhas, hf]
      exact ⟨rfl, fun v hv => by cases hv; exact hat k u hf⟩
  case round =>
    obtain ⟨left, cnt, D', hrg, hgw, hH⟩ := hrel
    clear hrg0 hg0 hs0
    go_wp2_with (first
      | (at_next; refine wpList_next_waits _ rfl _ rfl wb w.heap.size 400 _ _ _ rfl hrg ?_ ?_)
      | go_in)
    · intro _ hl0
      go_wp2
      go_end0
      refine ⟨rfl, ⟨hT, D', hrg.owns, fun k => ?_, fun k u hu z => ?_, fun k hk => ?_⟩, step_grown hgw (fun j hj => by cases hj; exact hT) (fun _ _ => rfl)⟩
      · rw [(hH k).1]; simp [keptO, hl0]
      · exact (hH k).2 u (by simpa [keptO, hl0] using hu) z
      · refine hbd k ?_
        cases hf : f k with
        | none => simp [hf] at hk
        | some u => rfl
    · intro x cu lv w1 cnt1 hlv hwx hlx hrg1 hlt hg1 hs1 hen
      obtain ⟨cl, rfl, hat1⟩ := hlv
      have hfx := hH.found hlx.out hat1
      have hgw1 := hgw.andThen hg1 (fun j hj => by cases hj; exact Or.inl (Nat.le_refl _))
      have hn1 : nb < w1.heap.size := Nat.lt_of_lt_of_le hn hgw1.size
      have hc1 : w1.cell? ⟨nb, 0, none⟩ = some (.int .i64 now) := (World.cell?_of_block (w := w) (hgw1.block nb hn (by simpa using hne))).trans hc
      clear hat1
      go_wp2_with fail
      refine (wake1_any x (cu, cl) nb now _ (by simp; omega) ?_).mono ?_
      · first
          | exact (World.cell?_of_block (w := w1) (Below.heap_alloc _ _ _ hn1)).trans hc1
          | (rw [World.cell?_setCell_ne, World.cell?_of_block (w := w1) (Below.heap_alloc _ _ _ hn1)]; exact hc1)
      rintro e w2 ⟨rfl, hb2⟩
      have hbb : Below w1.heap.size w1 w2 := ((Below.refl _ _).alloc (Nat.le_refl _) _).trans (hb2.mono (by simp))
      have hrg2 := hrg1.kept (grown_of_below hbb) (by simp) (by simp)
      have hgw2 := hgw1.andThen (grown_of_below hbb) (fun j hj => by cases hj)
      by_cases hcu : cu ≤ now
      · go_wp2_with (first
          | (at_delete; refine wpList_delete_ranges _ rfl _ _ 132 3 rfl 177 law3 Tryz.underlying132 _ wb w.heap.size 400 _ _ _ rfl hrg2 _ _ rfl (keyOf_int_mk Tryz.underlying3 hwx.out) ?_; intro w3 cnt3 hrg3 hle hturn; go_frame)
          | go_in)
        rw [strike_twice] at hrg3
        go_roundw
        case rel => exact ⟨_, cnt3, _, hrg3, hgw2.andThen hturn.grown (fun j hj => by cases hj; exact Or.inr rfl), hH.struck hfx (by simp; omega)⟩
        case measure => rw [hrg3.left_eq, hrg.left_eq]; omega
      · go_wp2
        go_roundw
        case rel => exact ⟨_, cnt1, _, hrg2, hgw2, hH.stays hlx.out hfx (by simp; omega)⟩
        case measure => rw [hrg2.left_eq, hrg.left_eq]; exact hlt

set_option maxHeartbeats 1000000 in
theorem wake_any (i k gb : Nat) (p : PG) (now : Int) (w : World) (T : Nat → Tag) (h : GM w T i k gb p) :
    Calls Tryz.prog 88 #[.pointer (some ⟨gb, 0, none⟩), .int .i64 now] w fun e w' => e = .returned (.tuple #[]) ∧ ∃ T', Step (SG i k) w T w' T' ∧ GM w' T' i k gb (wakeP p now) := by
  obtain ⟨vD, vE, tb, wb, hB, hD, hE, hT, hW⟩ := h
  have l1 := hB.lt
  have c4 := hB.cell (j := 4) rfl
  simp only [List.getElem_toArray, List.getElem_cons_succ, List.getElem_cons_zero] at c4
  have a1 := step_new w T (.cells #[.int .i64 now] 3) .free (fun _ => False)
  have hN := blk_new w T #[.int .i64 now] 3 .free
  go_enter Tryz.func88, Tryz.ntmps88
  go_wp2_with fail
  refine (delFunc_any (.q i 7 k) wb w.heap.size p.wt now _ _ (hW.step a1 (fun h => h)) hN.lt (hN.cell (j := 0) rfl)).mono ?_
  rintro e w1 ⟨rfl, hW1, hs1⟩
  go_wp2
  go_end0
  exact ⟨rfl, _, (a1.mono (fun _ h => h.elim)).trans (hs1.mono (fun t ht => ⟨7, by decide, ht⟩)), vD, vE, tb, wb, (hB.step a1 (fun h => h)).step hs1 (by simp), (hD.step a1 (fun h => h)).step hs1 (by simp), (hE.step a1 (fun h => h)).step hs1 (by simp), (hT.step a1 (fun h => h)).step hs1 (by simp), hW1⟩

set_option maxHeartbeats 1000000 in
theorem mark_any (i k gb : Nat) (p : PG) (w : World) (T : Nat → Tag) (h : GM w T i k gb p) (hs : setB p.done = true) (h0 : 0 ≤ p.start) (h1 : p.start ≤ 400) :
    Calls Tryz.prog 121 #[.pointer (some ⟨gb, 0, none⟩)] w fun e w' => e = .returned (.int .i64 (gapI p.done p.start)) ∧ Below w.heap.size w w' := by
  obtain ⟨vD, vE, tb, wb, hB, hD, hE, hT, hW⟩ := h
  obtain ⟨ao, cap, rfl⟩ := row_form hD
  have l1 := hB.lt
  have c0 := hB.cell (j := 0) rfl
  have c1 := hB.cell (j := 1) rfl
  simp only [List.getElem_toArray, List.getElem_cons_succ, List.getElem_cons_zero] at c0 c1
  go_enter Tryz.func121, Tryz.ntmps121
  go_wp2_with fail
  refine wp_region_over (by kernel_rfl) (by kernel_rfl) ?_
  repeat (go_big_quiet_step ((go_at_call 146; exact quiet_over_at (gap_row p.start (hD.step (step_below (fun _ => False) T (over_below _ _)) (fun h => h)) hs h0 (by omega)))))
  refine wpQuiet_nil ?_
  rintro _ ⟨x, rfl⟩
  go_wp2
  go_ret
  exact ⟨by first | rfl | simp, over_below w x⟩

end Go.Proofs.YtockkceclkcgbaaGreatDoor

/- Contracts of the program's receipt, delivery and newGroup. -/
namespace Go.Proofs.YtockkceclkcgbaaGreatDoor
open Go.RowKit Go.Maps

attribute [local go_sem] over_cell

theorem TM.look {w : World} {T : Nat → Tag} {t : Tag} {b : Nat} {f : Int → Int} (h : TM w T t b f) {n : Int} (hn : i64 n) : (Instr.lookup 131 (.map (some b)) (.int .i64 n) false).run Tryz.prog w = .ok (.int .i64 (f n)) w := by
  obtain ⟨_, D, hown, hat, _⟩ := h
  obtain ⟨c, hrun, hc, _⟩ := hown.lookup_int law3 Tryz.underlying131 Tryz.underlying3 (zeroI _) (keyOf_int_mk Tryz.underlying3 (wfI hn))
  rw [hat n] at hc
  have : f n = c := by simpa using hc
  rw [this]; exact hrun

theorem fld_wait (u : Int) (l : Bool) (w : World) : (Instr.field 177 (.agg #[.int .i64 u, .bool l]) 1).run Tryz.prog w = .ok (.bool l) w := by kernel_rfl
/-- what receipt finds -/
def receiptE (fl : Int) (n : Nat) (p : PG) (off tr : Int) : Int :=
  bif btw off (max fl p.start) (fl + n - 1) then (bif ((p.wt off).getD (0, false)).2 && decide (p.tr off = tr) then 0 else 12) else 9

set_option maxHeartbeats 1000000 in
theorem qhas_any (b gb : Nat) (fl st off : Int) (ao : Option Addr) (n cap : Nat) (w : World) (hlt : b < w.heap.size) (hlg : gb < w.heap.size) (c5 : w.cell? ⟨b, 5, none⟩ = some (.int .i64 fl)) (c6 : w.cell? ⟨b, 6, none⟩ = some (.slice ao n cap)) (d0 : w.cell? ⟨gb, 0, none⟩ = some (.int .i64 st)) (h0 : 0 ≤ fl) (h1 : fl + n ≤ 400) :
    Calls Tryz.prog 119 #[.pointer (some ⟨b, 0, none⟩), .pointer (some ⟨gb, 0, none⟩), .int .i64 off] w fun e w' => e = .returned (.bool (btw off (max fl st) (fl + n - 1))) ∧ Below w.heap.size w w' := by
  go_enter Tryz.func119, Tryz.ntmps119
  go_wp2_with fail
  refine (qfirst_any b gb fl st w hlt hlg c5 d0).mono ?_
  rintro e w1 ⟨rfl, hb1⟩
  have l1 := Nat.lt_of_lt_of_le hlt hb1.size
  go_wp2_with fail
  refine (qend_any b fl ao n cap w1 l1 ((hb1.cell (p := ⟨b, 5, none⟩) hlt).trans c5) ((hb1.cell (p := ⟨b, 6, none⟩) hlt).trans c6) h0 (by omega) (by omega)).mono ?_
  rintro e w2 ⟨rfl, hb2⟩
  go_wp2_with fail
  refine (between_any _ _ _ _).mono ?_
  rintro e w3 ⟨rfl, hb3⟩
  go_wp2
  go_ret
  exact ⟨rfl, (hb1.trans (hb2.mono hb1.size)).trans (hb3.mono (Nat.le_trans hb1.size hb2.size))⟩

set_option maxRecDepth 100000 in
set_option maxHeartbeats 1000000 in
theorem receipt_any (i k b gb : Nat) (p : PG) (off tr fl : Int) (ao : Option Addr) (n cap : Nat) (w : World) (T : Nat → Tag) (h : GM w T i k gb p) (hlt : b < w.heap.size) (c5 : w.cell? ⟨b, 5, none⟩ = some (.int .i64 fl)) (c6 : w.cell? ⟨b, 6, none⟩ = some (.slice ao n cap))
    (h0 : 0 ≤ fl) (h1 : fl + n ≤ 400) :
    Calls Tryz.prog 90 #[.pointer (some ⟨b, 0, none⟩), .pointer (some ⟨gb, 0, none⟩), .int .i64 off, .int .i64 tr] w fun e w' => e = .returned (.int .i64 (receiptE fl n p off tr)) ∧ Below w.heap.size w w' := by
  go_enter Tryz.func90, Tryz.ntmps90
  go_wp2_with fail
  refine (qhas_any b gb fl p.start off ao n cap w hlt h.lt c5 c6 h.start h0 h1).mono ?_
  rintro e w3 ⟨rfl, hb⟩
  have h3 := h.step (step_below (fun _ => False) T hb) (fun _ _ h => h)
  clear c5 c6 hlt
  cases hx : btw off (max fl p.start) (fl + n - 1)
  · go_wp2
    go_ret
    exact ⟨by simp [receiptE, hx], hb⟩
  · have hb2 := btw_true hx
    have hoff : i64 off := ⟨by omega, by omega⟩
    obtain ⟨vD, vE, tb, wb, hB, hD, hE, hT, hW⟩ := h3
    have l1 := hB.lt
    have d3 := hB.cell (j := 3) rfl
    have d4 := hB.cell (j := 4) rfl
    simp only [List.getElem_toArray, List.getElem_cons_succ, List.getElem_cons_zero] at d3 d4
    have lkT := hT.look hoff
    have lkW : (Instr.lookup 132 (.map (some wb)) (.int .i64 off) false).run Tryz.prog w3 = .ok (.agg #[.int .i64 ((p.wt off).getD (0, false)).1, .bool ((p.wt off).getD (0, false)).2]) w3 := (hW.look hoff).1
    clear hB hD hE hT hW h
    have hR : Hid (receiptE fl n p off tr = (bif ((p.wt off).getD (0, false)).2 && decide (p.tr off = tr) then 0 else 12)) := hide (by simp [receiptE, hx])
    clear hx hb2
    generalize (p.wt off).getD (0, false) = u at *
    obtain ⟨u1, l⟩ := u
    generalize p.tr off = t at *
    have hfl := fld_wait
    simp only at lkW
    cases l
    · go_wp2
      go_ret
      exact ⟨by rw [hR.out]; simp, hb⟩
    · by_cases ht : t = tr
      · subst ht
        go_wp2
        go_ret
        exact ⟨by rw [hR.out]; simp, hb⟩
      · go_wp2
        go_ret
        exact ⟨by rw [hR.out]; simp [ht], hb⟩

set_option maxHeartbeats 1000000 in
theorem newGroup_any (i k : Nat) (st : Int) (w : World) (T : Nat → Tag) :
    Calls Tryz.prog 140 #[.int .i64 st] w fun e w' => ∃ gb, e = .returned (.pointer (some ⟨gb, 0, none⟩)) ∧ ∃ T', Step (fun _ => False) w T w' T' ∧ GM w' T' i k gb (newP st) := by
  have hmm := @run_makeMap Tryz.prog
  go_enter Tryz.func140, Tryz.ntmps140
  go_wp2
  go_ret
  have a1 := step_new w T (.map #[] 0) (.q i 6 k) (fun _ => False)
  have m1 := World.ownsMap_made (H := Unit) w Tryz.prog 3 (plainElem Tryz.prog 3)
  have t1 : TM (w.alloc (.map #[] 0)) (retag T w.heap.size (.q i 6 k)) (.q i 6 k) w.heap.size (fun _ => 0) := ⟨retag_same _ _ _, _, m1.mono (by decide), fun k => rfl, fun k h => by cases h⟩
  generalize hw1 : w.alloc (.map #[] 0) = w1 at *
  have z1 : w1.heap.size = w.heap.size + 1 := by rw [← hw1]; simp
  generalize retag T w.heap.size (.q i 6 k) = T1 at *
  have a2 := step_new w1 T1 (.map #[] 0) (.q i 7 k) (fun _ => False)
  have m2 := World.ownsMap_made (H := Unit) w1 Tryz.prog 3 waitElem
  have t2 : WM (w1.alloc (.map #[] 0)) (retag T1 w1.heap.size (.q i 7 k)) (.q i 7 k) w1.heap.size (fun _ => none) := ⟨retag_same _ _ _, _, m2.mono (by decide), fun k => rfl, fun k u h => (by cases h), fun k h => (by cases h)⟩
  replace t1 := t1.step a2 (fun h => h)
  rw [z1] at a2 t1 t2
  generalize hw2 : w1.alloc (.map #[] 0) = w2 at *
  have z2 : w2.heap.size = w.heap.size + 2 := by rw [← hw2]; simp [z1]
  generalize retag T1 (w.heap.size + 1) (.q i 7 k) = T2 at *
  have a3 := step_new w2 T2 (.cells #[.int .i64 st, .slice none 0 0, .slice none 0 0, .map (some w.heap.size), .map (some (w.heap.size + 1))] 134) (.q i 3 k) (fun _ => False)
  have b3 := blk_new w2 T2 #[.int .i64 st, .slice none 0 0, .slice none 0 0, .map (some w.heap.size), .map (some (w.heap.size + 1))] 134 (.q i 3 k)
  rw [z2] at a3 b3
  exact ⟨w.heap.size + 2, rfl, _, (a1.trans a2).trans a3, _, _, _, _, b3, row_nil _ _ _ _ _, row_nil _ _ _ _ _, t1.step a3 (fun h => h), t2.step a3 (fun h => h)⟩

end Go.Proofs.YtockkceclkcgbaaGreatDoor

/- The contract of the program's delivery. -/
namespace Go.Proofs.YtockkceclkcgbaaGreatDoor
open Go.RowKit Go.Maps

attribute [local go_sem] over_cell

theorem over_step (w x : World) (T : Nat → Tag) : Step (fun _ => False) w T (over w x) T := step_below _ T (over_below w x)

set_option maxRecDepth 100000 in
set_option maxHeartbeats 400000 in
theorem delivery_walk (b gb g off cap len tb : Nat) (N fl J t : Int) (s : ByteArray) (w : World) (_hlt : b < w.heap.size) (_hlg : gb < w.heap.size) (_hgl : g < w.heap.size) (c5 : w.cell? ⟨b, 5, none⟩ = some (.int .i64 fl)) (c6 : w.cell? ⟨b, 6, none⟩ = some (.slice (some ⟨g, off, none⟩) len cap))
    (d3 : w.cell? ⟨gb, 3, none⟩ = some (.map (some tb))) (hc : w.cell? ⟨g, off + J.toNat, none⟩ = some (.string s)) (hw : IntKind.i64.wrap (N - fl) = J) (h0 : 0 ≤ J) (h1 : J < len)
    (lk : ∀ w', Below w.heap.size w w' → (Instr.lookup 131 (.map (some tb)) (.int .i64 N) false).run Tryz.prog w' = .ok (.int .i64 t) w') :
    Calls Tryz.prog 137 #[.pointer (some ⟨b, 0, none⟩), .pointer (some ⟨gb, 0, none⟩), .int .i64 N] w fun e w' => e = .returned (.agg #[.int .i64 N, .int .i64 t, .string s]) ∧ Below w.heap.size w w' := by
  have hb0 : Below w.heap.size w (w.alloc (.cells #[.int .i64 0, .int .i64 0, .string ⟨#[]⟩] 82)).drew := ((Below.refl _ _).alloc (Nat.le_refl _) _).drew
  have lkT := lk _ hb0
  have hb1 : Below w.heap.size w (w.alloc (.cells #[.int .i64 N, .int .i64 t, .string s] 82)).drew := ((Below.refl _ _).alloc (Nat.le_refl _) _).drew
  have lkT2 := lk _ hb1
  clear lk hb0
  go_enter Tryz.func137, Tryz.ntmps137
  go_wp2_with fail
  go_region_held3 (fun w' => w'.cell? ⟨b, 5, none⟩ = some (.int .i64 fl) ∧ w'.cell? ⟨b, 6, none⟩ = some (.slice (some ⟨g, off, none⟩) len cap) ∧ w'.cell? ⟨gb, 3, none⟩ = some (.map (some tb)) ∧ w'.cell? ⟨g, off + J.toNat, none⟩ = some (.string s) ∧ (Instr.lookup 131 (.map (some tb)) (.int .i64 N) false).run Tryz.prog w' = .ok (.int .i64 t) w') (go_keep) (fail)
  go_wp2
  refine bodyPost_ret (v := .agg #[.int .i64 N, .int .i64 t, .string s]) ?_ rfl ⟨rfl, hb1⟩
  simp [results, Tryz.results137, go_sem]

/-- delivery: the try and the body of a kept message -/
theorem delivery_any (i k b gb : Nat) (p : PG) (n : Nat) (fl : Int) (v : Value) (xs : List Value) (s : ByteArray) (j : Nat) (w : World) (T : Nat → Tag) (h : GM w T i k gb p) (hlt : b < w.heap.size) (c5 : w.cell? ⟨b, 5, none⟩ = some (.int .i64 fl)) (c6 : w.cell? ⟨b, 6, none⟩ = some v)
    (hS : Sub w T (.q i 1 0) v xs) (hj : xs[j]? = some (.string s)) (hnj : (n : Int) - fl = j) (hn : n < 400) (hx : xs.length ≤ 400) :
    Calls Tryz.prog 137 #[.pointer (some ⟨b, 0, none⟩), .pointer (some ⟨gb, 0, none⟩), .int .i64 n] w fun e w' => e = .returned (.agg #[.int .i64 n, .int .i64 (p.tr n), .string s]) ∧ Below w.heap.size w w' := by
  obtain ⟨g, off, cap, rfl, hcell, hgl⟩ := hS.cell hj
  have hjl := (List.getElem?_eq_some_iff.1 hj).1
  obtain ⟨vD, vE, tb, wb, hB, hD, hE, hT, hW⟩ := h
  refine delivery_walk b gb g off cap xs.length tb n fl j (p.tr n) s w hlt hB.lt hgl c5 c6 (hB.cell (j := 3) rfl) (by simpa using hcell) (by rw [hnj, IntWalk.i64_left, IntWalk.wrap64_in _ ⟨by omega, by omega⟩]) (by omega) (by omega) (fun w' hb => ?_)
  exact (hT.step (step_below (fun _ => False) T hb) (fun h => h)).look ⟨by omega, by omega⟩

end Go.Proofs.YtockkceclkcgbaaGreatDoor

/- Contracts of the program's next: it takes from the first channel, from the second one only if the first has none. -/
namespace Go.Proofs.YtockkceclkcgbaaGreatDoor
open Go.RowKit Go.Maps Go.Conc

/-- Block c is a channel with room for cap numbers, in which those of l lie. -/
def Ch (w : World) (T : Nat → Tag) (t : Tag) (c cap : Nat) (l : List Nat) : Prop := T c = t ∧ ∃ s r, w.heap[c]? = some (.chan cap (l.map natV).toArray false s r false)
theorem Ch.lt {w : World} {T : Nat → Tag} {t : Tag} {c cap : Nat} {l : List Nat} (h : Ch w T t c cap l) : c < w.heap.size := by
  obtain ⟨_, s, r, h⟩ := h
  exact (Array.getElem?_eq_some_iff.1 h).1
theorem Ch.step {S : Tag → Prop} {w w' : World} {T T' : Nat → Tag} {t : Tag} {c cap : Nat} {l : List Nat} (h : Ch w T t c cap l) (hs : Step S w T w' T') (ht : ¬ S t) : Ch w' T' t c cap l := by
  have hlt := h.lt
  obtain ⟨h1, s, r, h2⟩ := h
  exact ⟨(hs.tag c hlt).trans h1, s, r, (hs.block c hlt (by rw [h1]; exact ht)).trans h2⟩
theorem step_setChan (w : World) (T : Nat → Tag) (c cap : Nat) (buf : Array Value) (s r : Nat) {S : Tag → Prop} (hS : S (T c)) : Step S w T (w.setChan c cap buf false s r false) T :=
  step_kept (U := fun k => k = c) ⟨rfl, rfl, rfl, by simp [World.setChan], fun k _ hk => by simp only [World.setChan]; rw [Array.getElem?_setIfInBounds_ne (fun e => hk e.symm)]⟩ (fun k _ hk => by rw [show k = c from hk]; exact hS) (fun _ _ => rfl)

theorem buf_head (v : Nat) (r : List Nat) : (List.map natV (v :: r)).toArray.getD 0 undef = .int .i64 v := by simp [natV]
theorem buf_tail (v : Nat) (r : List Nat) : (List.map natV (v :: r)).toArray.extract 1 (List.map natV (v :: r)).toArray.size = (r.map natV).toArray := by
  apply Array.toList_inj.1
  simp only [Array.toList_extract, List.map_cons, List.size_toArray, List.length_cons, List.length_map]
  simp
  exact List.take_of_length_le (by simp)

set_option maxRecDepth 100000 in
set_option maxHeartbeats 400000 in
theorem next_first (ca cf capA v : Nat) (r : List Nat) (t : Tag) (w : World) (T : Nat → Tag) (hA : Ch w T t ca capA (v :: r)) :
    Calls Tryz.prog 70 #[.chan (some ca), .chan (some cf)] w fun e w' => e = .returned (.tuple #[.int .i64 v, .bool true]) ∧ Ch w' T t ca capA r ∧ Step (fun s => s = t) w T w' T := by
  obtain ⟨hT, s0, r0, hc⟩ := hA
  have hlt := (Array.getElem?_eq_some_iff.1 hc).1
  go_enter Tryz.func70, Tryz.ntmps70
  go_upto_region 2 with (fail)
  refine wp_region_S ?_
  change wpS Tryz.prog _ _ [0, 1, 2] _ _
  refine wpS_some (c := ca) (cap := capA) (s := s0) (r := r0) (tm := false) (closed := false) (z := .int .i64 0) rfl rfl (by simp [go_sem, execOp, rcase, Act.eval]) hc (by simp) ?_
  rw [buf_head, buf_tail]
  refine wpS_value rfl rfl (v := .int .i64 0) (by simp [go_sem, execOp, Act.eval, Act.put]; rfl) ?_
  refine wpS_value rfl rfl (v := .bool true) (by simp [go_sem, execOp, Act.eval, Act.put]; rfl) ?_
  refine wpS_nil ?_
  have hs := step_setChan w T ca capA (r.map natV).toArray s0 (r0 + 1) (S := fun s => s = t) hT
  have hh := heap_setChan w ca capA (r.map natV).toArray false s0 (r0 + 1) false hlt
  generalize w.setChan ca capA (r.map natV).toArray false s0 (r0 + 1) false = w1 at *
  go_frame
  go_wp2
  go_ret2
  exact ⟨rfl, ⟨hT, _, _, hh⟩, hs⟩

set_option maxRecDepth 100000 in
set_option maxHeartbeats 400000 in
theorem next_second (ca cf capA capF v : Nat) (r : List Nat) (t u : Tag) (w : World) (T : Nat → Tag) (hA : Ch w T u ca capA []) (hF : Ch w T t cf capF (v :: r)) :
    Calls Tryz.prog 70 #[.chan (some ca), .chan (some cf)] w fun e w' => e = .returned (.tuple #[.int .i64 v, .bool true]) ∧ Ch w' T t cf capF r ∧ Step (fun s => s = t) w T w' T := by
  obtain ⟨hTa, s1, r1, hca⟩ := hA
  obtain ⟨hT, s0, r0, hc⟩ := hF
  have hlt := (Array.getElem?_eq_some_iff.1 hc).1
  go_enter Tryz.func70, Tryz.ntmps70
  go_upto_region 2 with (fail)
  refine wp_region_S ?_
  change wpS Tryz.prog _ _ [0, 1, 2] _ _
  refine wpS_none (c := ca) (cap := capA) (s := s1) (r := r1) (tm := false) (z := .int .i64 0) rfl rfl (by simp [go_sem, execOp, rcase, Act.eval]) hca ?_
  refine wpS_value rfl rfl (v := .int .i64 (-1)) (by simp [go_sem, execOp, Act.eval, Act.put]; rfl) ?_
  refine wpS_value rfl rfl (v := .bool false) (by simp [go_sem, execOp, Act.eval, Act.put]; rfl) ?_
  refine wpS_nil ?_
  go_frame
  go_upto_region 6 with (fail)
  refine wp_region_S ?_
  change wpS Tryz.prog _ _ [0, 1, 2] _ _
  refine wpS_some (c := cf) (cap := capF) (s := s0) (r := r0) (tm := false) (closed := false) (z := .int .i64 0) rfl rfl (by simp [go_sem, execOp, rcase, Act.eval]) hc (by simp) ?_
  rw [buf_head, buf_tail]
  refine wpS_value rfl rfl (v := .int .i64 0) (by simp [go_sem, execOp, Act.eval, Act.put]; rfl) ?_
  refine wpS_value rfl rfl (v := .bool true) (by simp [go_sem, execOp, Act.eval, Act.put]; rfl) ?_
  refine wpS_nil ?_
  have hs := step_setChan w T cf capF (r.map natV).toArray s0 (r0 + 1) (S := fun s => s = t) hT
  have hh := heap_setChan w cf capF (r.map natV).toArray false s0 (r0 + 1) false hlt
  generalize w.setChan cf capF (r.map natV).toArray false s0 (r0 + 1) false = w1 at *
  go_frame
  go_wp2
  go_ret2
  exact ⟨rfl, ⟨hT, _, _, hh⟩, hs⟩

set_option maxRecDepth 100000 in
set_option maxHeartbeats 400000 in
theorem next_none (ca cf capA capF : Nat) (t u : Tag) (w : World) (T : Nat → Tag) (hA : Ch w T u ca capA []) (hF : Ch w T t cf capF []) :
    Calls Tryz.prog 70 #[.chan (some ca), .chan (some cf)] w fun e w' => e = .returned (.tuple #[.int .i64 0, .bool false]) ∧ w' = w := by
  obtain ⟨hTa, s1, r1, hca⟩ := hA
  obtain ⟨hT, s0, r0, hc⟩ := hF
  go_enter Tryz.func70, Tryz.ntmps70
  go_upto_region 2 with (fail)
  refine wp_region_S ?_
  change wpS Tryz.prog _ _ [0, 1, 2] _ _
  refine wpS_none (c := ca) (cap := capA) (s := s1) (r := r1) (tm := false) (z := .int .i64 0) rfl rfl (by simp [go_sem, execOp, rcase, Act.eval]) hca ?_
  refine wpS_value rfl rfl (v := .int .i64 (-1)) (by simp [go_sem, execOp, Act.eval, Act.put]; rfl) ?_
  refine wpS_value rfl rfl (v := .bool false) (by simp [go_sem, execOp, Act.eval, Act.put]; rfl) ?_
  refine wpS_nil ?_
  go_frame
  go_upto_region 6 with (fail)
  refine wp_region_S ?_
  change wpS Tryz.prog _ _ [0, 1, 2] _ _
  refine wpS_none (c := cf) (cap := capF) (s := s0) (r := r0) (tm := false) (z := .int .i64 0) rfl rfl (by simp [go_sem, execOp, rcase, Act.eval]) hc ?_
  refine wpS_value rfl rfl (v := .int .i64 (-1)) (by simp [go_sem, execOp, Act.eval, Act.put]; rfl) ?_
  refine wpS_value rfl rfl (v := .bool false) (by simp [go_sem, execOp, Act.eval, Act.put]; rfl) ?_
  refine wpS_nil ?_
  go_frame
  go_wp2
  go_ret2
  exact ⟨rfl, rfl⟩

end Go.Proofs.YtockkceclkcgbaaGreatDoor

/- The contracts of number and of the reader's methods. -/
import Derived.Test.YtockkceclkcgbaaGreatDoorB24
import Derived.LaidEql
import Derived.Stop.Asserts
import Derived.RowKitTokens
import Derived.Deep.RegionHeld3
import Derived.Stop.IfaceNil
namespace Go.Proofs.YtockkceclkcgbaaGreatDoor
open Go.RowKit

/-- the cells of a reader, ahead of others -/
def rdCells (cs : Array Value) (r : Rd) : Array Value := (cs.setIfInBounds 0 (.string (mkB r.rest))).setIfInBounds 1 (.bool r.short)
/-- A reader in block b. -/
def RdB (w : World) (T : Nat → Tag) (t : Tag) (b : Nat) (e : TypeId) (cs : Array Value) (r : Rd) : Prop := Blk w T t b (rdCells cs r) e ∧ 2 ≤ cs.size ∧ r.rest.length ≤ 9223372036854775807
theorem RdB.step {S : Tag → Prop} {w w' : World} {T T' : Nat → Tag} {t : Tag} {b : Nat} {e : TypeId} {cs : Array Value} {r : Rd} (h : RdB w T t b e cs r) (hs : Step S w T w' T') (ht : ¬ S t) : RdB w' T' t b e cs r := ⟨h.1.step hs ht, h.2⟩
theorem rd_cell0 {cs : Array Value} {r : Rd} (h : 2 ≤ cs.size) : (rdCells cs r)[0]? = some (.string (mkB r.rest)) := by
  unfold rdCells
  rw [Array.getElem?_setIfInBounds_ne (by omega), Array.getElem?_setIfInBounds_self_of_lt (by omega)]
theorem rd_cell1 {cs : Array Value} {r : Rd} (h : 2 ≤ cs.size) : (rdCells cs r)[1]? = some (.bool r.short) := by
  unfold rdCells
  rw [Array.getElem?_setIfInBounds_self_of_lt (by simp; omega)]
theorem rd_set0 {cs : Array Value} {r : Rd} (x : Bs) : (rdCells cs r).setIfInBounds 0 (.string (mkB x)) = rdCells cs ⟨x, r.short⟩ := by
  unfold rdCells
  rw [Array.setIfInBounds_comm _ _ (by omega), Array.setIfInBounds_setIfInBounds]
theorem rd_set1 {cs : Array Value} {r : Rd} (x : Bool) : (rdCells cs r).setIfInBounds 1 (.bool x) = rdCells cs ⟨r.rest, x⟩ := by
  unfold rdCells
  rw [Array.setIfInBounds_setIfInBounds]
theorem mkB_take (l : Bs) (n : Nat) (_h : n ≤ l.length) : (mkB l).extract 0 n = mkB (l.take n) := by
  apply ByteArray.ext
  simp [mkB]
theorem mkB_drop (l : Bs) (n : Nat) (_h : n ≤ l.length) : (mkB l).extract n l.length = mkB (l.drop n) := by
  apply ByteArray.ext
  simp [mkB]
  exact List.take_of_length_le (by simp)

set_option maxRecDepth 100000 in
set_option maxHeartbeats 1000000 in
theorem take_any (t : Tag) (b : Nat) (e : TypeId) (cs : Array Value) (r : Rd) (n : Nat) (w : World) (T : Nat → Tag) (h : RdB w T t b e cs r) (hn : n ≤ 9000000000000000000) :
    Calls Tryz.prog 147 #[.pointer (some ⟨b, 0, none⟩), .int .i64 n] w fun e' w' => e' = .returned (.string (mkB (r.take n).1)) ∧ Step (fun s => s = t) w T w' T ∧ RdB w' T t b e cs (r.take n).2 := by
  obtain ⟨hB, h2, hl⟩ := h
  have lb := hB.lt
  have c0 := hB.cell (rd_cell0 h2)
  have c1 := hB.cell (rd_cell1 h2)
  have z0 := hB.frozen 0
  have z1 := hB.frozen 1
  have hsz := mkB_size r.rest
  by_cases hs : r.short = true
  · have et : r.take n = ([], ⟨r.rest, true⟩) := by simp [Rd.take, hs]
    rw [hs] at c1
    have hB2 := hB.set 1 (.bool true)
    rw [rd_set1] at hB2
    rw [et]
    go_enter Tryz.func147, Tryz.ntmps147
    go_wp2
    go_ret
    exact ⟨rfl, step_setCell _ _ _ _ _ hB.1, hB2, h2, hl⟩
  have hs' : r.short = false := by simpa using hs
  rw [hs'] at c1
  by_cases hlt : r.rest.length < n
  · have et : r.take n = ([], ⟨r.rest, true⟩) := by simp [Rd.take, hlt]
    have hB2 := hB.set 1 (.bool true)
    rw [rd_set1] at hB2
    rw [et]
    have q : ((mkB r.rest).size : Int) < n := by rw [hsz]; omega
    go_enter Tryz.func147, Tryz.ntmps147
    go_wp2
    go_ret
    exact ⟨rfl, step_setCell _ _ _ _ _ hB.1, hB2, h2, hl⟩
  · have et : r.take n = (r.rest.take n, ⟨r.rest.drop n, r.short⟩) := by simp [Rd.take, hs', hlt]
    have hB2 := hB.set 0 (.string (mkB (r.rest.drop n)))
    rw [rd_set0] at hB2
    rw [et]
    have q : ¬ ((mkB r.rest).size : Int) < n := by rw [hsz]; omega
    have q2 : n ≤ (mkB r.rest).size := by rw [hsz]; omega
    have m1 := mkB_take r.rest n (by omega)
    have m2 := mkB_drop r.rest n (by omega)
    have hl2 : (r.rest.drop n).length ≤ 9223372036854775807 := by simp; omega
    generalize mkB r.rest = B at *
    go_enter Tryz.func147, Tryz.ntmps147
    go_wp2
    go_ret
    exact ⟨rfl, step_setCell _ _ _ _ _ hB.1, by rw [hs'] at hB2; first | exact hB2 | (rw [m2]; exact hB2), h2, hl2⟩

theorem or_byte (z x : Nat) (hz : z < 1099511627776) (hx : x < 256) : bits .or .i64 ((z : Int) * 256) x = z * 256 + x := by
  have h1 : ((z : Int) * 256) = ((z * 256 : Nat) : Int) := by omega
  have h2 : (z * 256) ||| x = z * 256 + x := by
    have := Nat.shiftLeft_add_eq_or_of_lt (i := 8) (b := x) (by simpa using hx) z
    rw [Nat.shiftLeft_eq] at this
    exact this.symm
  unfold bits
  rw [h1]
  show IntKind.i64.wrap (((BitVec.ofInt 64 ((z * 256 : Nat) : Int)) ||| (BitVec.ofInt 64 (x : Int))).toNat : Int) = _
  rw [BitVec.ofInt_natCast, BitVec.ofInt_natCast, BitVec.toNat_or, BitVec.toNat_ofNat, BitVec.toNat_ofNat, Nat.mod_eq_of_lt (by omega), Nat.mod_eq_of_lt (by omega), h2, IntWalk.i64_left, IntWalk.wrap64_in _ ⟨by omega, by omega⟩]
  omega

set_option maxRecDepth 100000 in
set_option maxHeartbeats 1000000 in
theorem number_any (l : Bs) (hl : l.length ≤ 6) (w : World) : Calls Tryz.prog 124 #[.string (mkB l)] w fun e w' => e = .returned (.int .i64 (decN l)) ∧ w' = w := by
  have hsz := mkB_size l
  go_enter Tryz.func124, Tryz.ntmps124
  go_wp2_with fail
  go_loopw [3, 7] (fun u3 u7 wr => ∃ (k : Nat), k ≤ l.length ∧ u7 = .int .i64 k ∧ u3 = .int .i64 (decN (l.take k)) ∧ wr = w) (fun _ u7 _ => l.length - (intOf u7).toNat)
  case atStart => exact ⟨0, Nat.zero_le _, rfl, rfl, rfl⟩
  case round =>
    obtain ⟨k, hk, rfl, rfl, rfl⟩ := hrel
    by_cases hlt : k < l.length
    · obtain ⟨x, hx⟩ : ∃ x, l[k]? = some x := ⟨_, List.getElem?_eq_getElem hlt⟩
      have hnext : Hid (decN (l.take (k + 1)) = decN (l.take k) * 256 + x.toNat) := hide (by rw [take_snocB hx, decN_snoc])
      have hb : decN (l.take k) < 256 ^ 5 := Nat.lt_of_lt_of_le (decN_lt _) (Nat.pow_le_pow_right (by decide) (by simp; omega))
      generalize decN (l.take k) = z at *
      have hlt2 : k < (mkB l).size := by omega
      have hxv : ((mkB l)[k]'hlt2).toNat = x.toNat := by
        have h2 := (List.getElem?_eq_some_iff.1 hx).2
        rw [← h2]
        rfl
      have hx8 : x.toNat < 256 := x.toNat_lt
      have hor : Hid (bits .or .i64 ((z : Int) * 256) (x.toNat : Int) = ((z * 256 + x.toNat : Nat) : Int)) := hide (by
        rw [or_byte z x.toNat (by omega) hx8]
        omega)
      clear hx
      go_wp2
      exact ⟨⟨k + 1, by omega, by simp, by rw [hor.out, hnext.out], trivial⟩, by simp [intOf]; omega⟩
    · have e : l.take k = l := List.take_of_length_le (by omega)
      go_wp2
      go_ret
      exact ⟨by rw [e]; rfl, rfl⟩

set_option maxHeartbeats 1000000 in
theorem small_any (t : Tag) (b : Nat) (e : TypeId) (cs : Array Value) (r : Rd) (w : World) (T : Nat → Tag) (h : RdB w T t b e cs r) :
    Calls Tryz.prog 151 #[.pointer (some ⟨b, 0, none⟩)] w fun e' w' => e' = .returned (.int .i64 (r.num 1).1) ∧ Step (fun s => s = t) w T w' T ∧ RdB w' T t b e cs (r.num 1).2 := by
  have ht := take_any t b e cs r 1 w T h (by decide)
  have hlen : (r.take 1).1.length ≤ 6 := by unfold Rd.take; split <;> simp; omega
  have hnum := number_any (r.take 1).1 hlen
  go_enter Tryz.func151, Tryz.ntmps151
  go_wp2_with fail
  refine ht.mono ?_
  rintro e1 w1 ⟨rfl, s1, h1⟩
  go_wp2_with fail
  refine (hnum w1).mono ?_
  rintro e2 w2 ⟨rfl, rfl⟩
  go_wp2
  go_ret
  exact ⟨rfl, s1, h1⟩
set_option maxHeartbeats 1000000 in
theorem num_any (t : Tag) (b : Nat) (e : TypeId) (cs : Array Value) (r : Rd) (w : World) (T : Nat → Tag) (h : RdB w T t b e cs r) :
    Calls Tryz.prog 149 #[.pointer (some ⟨b, 0, none⟩)] w fun e' w' => e' = .returned (.int .i64 (r.num 2).1) ∧ Step (fun s => s = t) w T w' T ∧ RdB w' T t b e cs (r.num 2).2 := by
  have ht := take_any t b e cs r 2 w T h (by decide)
  have hlen : (r.take 2).1.length ≤ 6 := by unfold Rd.take; split <;> simp; omega
  have hnum := number_any (r.take 2).1 hlen
  go_enter Tryz.func149, Tryz.ntmps149
  go_wp2_with fail
  refine ht.mono ?_
  rintro e1 w1 ⟨rfl, s1, h1⟩
  go_wp2_with fail
  refine (hnum w1).mono ?_
  rintro e2 w2 ⟨rfl, rfl⟩
  go_wp2
  go_ret
  exact ⟨rfl, s1, h1⟩
theorem decN_small (r : Rd) (n : Nat) : (r.num n).1 < 256 ^ n := by
  unfold Rd.num
  refine Nat.lt_of_lt_of_le (decN_lt _) (Nat.pow_le_pow_right (by decide) ?_)
  unfold Rd.take
  split <;> simp
  omega
set_option maxHeartbeats 1000000 in
theorem text_any (t : Tag) (b : Nat) (e : TypeId) (cs : Array Value) (r : Rd) (w : World) (T : Nat → Tag) (h : RdB w T t b e cs r) :
    Calls Tryz.prog 129 #[.pointer (some ⟨b, 0, none⟩)] w fun e' w' => e' = .returned (.string (mkB r.text.1)) ∧ Step (fun s => s = t) w T w' T ∧ RdB w' T t b e cs r.text.2 := by
  have hs := small_any t b e cs r w T h
  have hlt := decN_small r 1
  go_enter Tryz.func129, Tryz.ntmps129
  go_wp2_with fail
  refine hs.mono ?_
  rintro e1 w1 ⟨rfl, s1, h1⟩
  have ht := take_any t b e cs _ (r.num 1).1 w1 T h1 (by omega)
  go_wp2_with fail
  refine ht.mono ?_
  rintro e2 w2 ⟨rfl, s2, h2⟩
  have hsz : (mkB (((r.num 1).2).take (r.num 1).1).1).size ≤ 140737488355328 := by
    rw [mkB_size]
    unfold Rd.take
    split
    · simp
    · simp; omega
  go_wp2_with fail
  refine (clone_any _ w2 hsz).mono ?_
  rintro e3 w3 ⟨rfl, hb3⟩
  go_wp2
  go_ret
  exact ⟨rfl, (s1.trans s2).trans (step_below _ T hb3), h2.step (step_below (fun _ => False) T hb3) (fun h => h)⟩
theorem mkB_empty (l : Bs) : (mkB l).toList.isEmpty = decide (l = []) := by
  rw [ByteArray.toList_eq, mkB_list]
  cases l <;> rfl
set_option maxHeartbeats 1000000 in
theorem ended_any (t : Tag) (b : Nat) (e : TypeId) (cs : Array Value) (r : Rd) (w : World) (T : Nat → Tag) (h : RdB w T t b e cs r) :
    Calls Tryz.prog 131 #[.pointer (some ⟨b, 0, none⟩)] w fun e' w' => e' = .returned (.bool r.ended) ∧ w' = w := by
  obtain ⟨hB, h2, hl⟩ := h
  have lb := hB.lt
  have c0 := hB.cell (rd_cell0 h2)
  have c1 := hB.cell (rd_cell1 h2)
  have hem := mkB_empty r.rest
  unfold Rd.ended
  cases hd : decide (r.rest = [])
  · rw [hd] at hem
    have hem2 : ¬ (mkB r.rest).toList = [] := fun e => by rw [e] at hem; cases hem
    go_enter Tryz.func131, Tryz.ntmps131
    go_wp2
    go_ret
    exact ⟨rfl, rfl⟩
  · rw [hd] at hem
    have hem2 : (mkB r.rest).toList = [] := List.isEmpty_iff.1 hem
    go_enter Tryz.func131, Tryz.ntmps131
    go_wp2
    go_ret
    exact ⟨by simp, rfl⟩

end Go.Proofs.YtockkceclkcgbaaGreatDoor

/- errors.Is of the two errors that stand in variables; where they lie (Laid). -/
namespace Go.Proofs.YtockkceclkcgbaaGreatDoor
open Go.RowKit Go.Extern.Stop Go.Stop Go.Extern

theorem Tryz.isTypeOf (v : Value) (w : World) : (Extern.ReflectliteType.typeOf #[.iface 257 v]).run Tryz.prog w = .ok (.iface 214 (.agg #[.pointer (some ⟨2, 257, none⟩)])) w := by kernel_rfl
def cmpF : Array Value → Sem Value := Extern.ReflectliteType.method fun t => do Go.Extern.Rtype.noPackHeld "Comparable" t; pure (.bool (← typeInfo t).comparable)
theorem Tryz.isComparable (w : World) : (cmpF #[.agg #[.pointer (some ⟨2, 257, none⟩)]]).run Tryz.prog w = .ok (.bool true) w := by kernel_rfl
theorem Tryz.isMethodComparable (n : Nat) (v : Value) (w : World) : (Go.method (n + 1) 214 v "Comparable").run Tryz.prog w = .ok (200, v) w := by kernel_rfl
theorem Tryz.isComp : (Tryz.prog.info? 257).map (·.comparable) = some true := by kernel_rfl
theorem Tryz.isSize : (Tryz.prog.info? 279).map (·.size) = some 1 := by kernel_rfl
theorem Tryz.noIsE (v : Value) (xT : TypeId) (w : World) : (Instr.typeAssert (.iface 257 v) xT 216 true).run Tryz.prog w = .ok (.tuple #[.nilIface, .bool false]) w := run_typeAssert_lacksB Tryz.underlying216 (by kernel_rfl) (by kernel_rfl) v xT w
theorem Tryz.noUnwrapE (v : Value) (xT : TypeId) (w : World) : (Instr.typeAssert (.iface 257 v) xT 219 true).run Tryz.prog w = .ok (.tuple #[.nilIface, .bool false]) w := run_typeAssert_lacksB Tryz.underlying219 (by kernel_rfl) (by kernel_rfl) v xT w
theorem Tryz.noUnwrapsE (v : Value) (xT : TypeId) (w : World) : (Instr.typeAssert (.iface 257 v) xT 221 true).run Tryz.prog w = .ok (.tuple #[.nilIface, .bool false]) w := run_typeAssert_lacksB Tryz.underlying221 (by kernel_rfl) (by kernel_rfl) v xT w

/-- errors.Is(x, x), x a pointer to an errors.errorString. -/
theorem is_same (a : Addr) (w : World) :
    Calls Tryz.prog 96 #[.iface 257 (.pointer (some a)), .iface 257 (.pointer (some a))] w fun e w' => e = .returned (.bool true) ∧ w' = w := by
  obtain ⟨i, hi, hcmp⟩ := Option.map_eq_some_iff.1 Tryz.isComp
  obtain ⟨j, hj, hjs⟩ := Option.map_eq_some_iff.1 Tryz.isSize
  have h8 := @run_callFunc_extern Tryz.prog 125 _ Extern.ReflectliteType.typeOf Tryz.func125 (by kernel_rfl) (by kernel_rfl) (by kernel_rfl) (by kernel_rfl)
  have h32 := @run_callFunc_extern Tryz.prog 200 _ cmpF Tryz.func200 (by kernel_rfl) (by kernel_rfl) (by kernel_rfl) (by kernel_rfl)
  have tT := Tryz.isTypeOf
  have cT := Tryz.isComparable
  have mR := Tryz.isMethodComparable
  have heq := run_eql_iface_ptr_same (P := Tryz.prog) w a Tryz.underlying126 Tryz.underlying257 hi hcmp hj
  go_enter Tryz.func96, Tryz.ntmps96
  go_wp2
  refine wp_loop_rounds 1 ?_
  rw [rounds_succ]
  go_wp2
  go_ret
  exact ⟨rfl, rfl⟩

/-- errors.Is(nil, x). -/
theorem is_nil (b : Addr) (w : World) :
    Calls Tryz.prog 96 #[.nilIface, .iface 257 (.pointer (some b))] w fun e w' => e = .returned (.bool false) ∧ w' = w := by
  have hn := run_eql_iface_nil_left (P := Tryz.prog) w 257 (.pointer (some b)) Tryz.underlying126
  go_enter Tryz.func96, Tryz.ntmps96
  go_wp2
  go_ret
  exact ⟨rfl, rfl⟩

/-- errors.Is(x, y), two different pointers to errors.errorString. -/
theorem is_other (a b : Addr) (ca cb : Array Value) (ta tb : TypeId) (w : World) (hne : a ≠ b) (ha : w.heap[a.block]? = some (.cells ca ta (0, 0))) (hb : w.heap[b.block]? = some (.cells cb tb (0, 0))) :
    Calls Tryz.prog 96 #[.iface 257 (.pointer (some a)), .iface 257 (.pointer (some b))] w fun e w' => e = .returned (.bool false) ∧ w' = w := by
  obtain ⟨i, hi, hcmp⟩ := Option.map_eq_some_iff.1 Tryz.isComp
  obtain ⟨j, hj, hjs⟩ := Option.map_eq_some_iff.1 Tryz.isSize
  have h8 := @run_callFunc_extern Tryz.prog 125 _ Extern.ReflectliteType.typeOf Tryz.func125 (by kernel_rfl) (by kernel_rfl) (by kernel_rfl) (by kernel_rfl)
  have h32 := @run_callFunc_extern Tryz.prog 200 _ cmpF Tryz.func200 (by kernel_rfl) (by kernel_rfl) (by kernel_rfl) (by kernel_rfl)
  have tT := Tryz.isTypeOf
  have cT := Tryz.isComparable
  have mR := Tryz.isMethodComparable
  have nE := Tryz.noIsE
  have uE := Tryz.noUnwrapE
  have vE := Tryz.noUnwrapsE
  have heq := run_eql_iface_ptr_other (P := Tryz.prog) w Tryz.underlying126 Tryz.underlying257 hi hcmp hj (by rw [hjs]; decide) hne ha hb
  go_enter Tryz.func96, Tryz.ntmps96
  go_wp2
  refine wp_loop_rounds 1 ?_
  rw [rounds_succ]
  go_wp2
  go_ret
  exact ⟨rfl, rfl⟩

/-- one of the two: the variable's cell (block g) and what it points to -/
structure LaidAt (w : World) (T : Nat → Tag) (g : Nat) (a : Addr) : Prop where
  cell : w.cell? ⟨g, 0, none⟩ = some (.iface 257 (.pointer (some a)))
  tag : T g = .old
  lt : g < w.heap.size
  goal : ∃ c t, w.heap[a.block]? = some (.cells c t (0, 0))
  toTag : T a.block = .old
theorem LaidAt.toLt {w : World} {T : Nat → Tag} {g : Nat} {a : Addr} (h : LaidAt w T g a) : a.block < w.heap.size := by
  obtain ⟨c, t, hb⟩ := h.goal
  rcases Nat.lt_or_ge a.block w.heap.size with h1 | h1
  · exact h1
  · rw [Array.getElem?_eq_none h1] at hb; cases hb
theorem LaidAt.step {S : Tag → Prop} {w w' : World} {T T' : Nat → Tag} {g : Nat} {a : Addr} (h : LaidAt w T g a) (hs : Step S w T w' T') (ho : ¬ S .old) : LaidAt w' T' g a :=
  ⟨(hs.cell h.lt (by rw [h.tag]; exact ho)).trans h.cell, (hs.tag g h.lt).trans h.tag, Nat.lt_of_lt_of_le h.lt hs.size,
    by obtain ⟨c, t, hb⟩ := h.goal; exact ⟨c, t, (hs.block _ h.toLt (by rw [h.toTag]; exact ho)).trans hb⟩, (hs.tag _ h.toLt).trans h.toTag⟩
/-- The two errors stand in their variables. -/
structure Laid (w : World) (T : Nat → Tag) (a0 a1 : Addr) : Prop where
  cut : LaidAt w T 0 a0
  wrong : LaidAt w T 1 a1
  ne : a0 ≠ a1
theorem Laid.step {S : Tag → Prop} {w w' : World} {T T' : Nat → Tag} {a0 a1 : Addr} (h : Laid w T a0 a1) (hs : Step S w T w' T') (ho : ¬ S .old) : Laid w' T' a0 a1 := ⟨h.cut.step hs ho, h.wrong.step hs ho, h.ne⟩

end Go.Proofs.YtockkceclkcgbaaGreatDoor

/- The contracts of the scanner's part and record, of mayBeCut. -/
namespace Go.Proofs.YtockkceclkcgbaaGreatDoor
open Go.RowKit

def scCs (s : Nat) : Array Value := #[.bool false, .bool false, .int .u32 s]
/-- A scanner in block b. -/
abbrev ScB (w : World) (T : Nat → Tag) (t : Tag) (b : Nat) (r : Rd) (s : Nat) : Prop := RdB w T t b 163 (scCs s) r
theorem sc_cell2 (r : Rd) (s : Nat) : (rdCells (scCs s) r)[2]? = some (.int .u32 s) := rfl
theorem sc_set2 (r : Rd) (s s' : Nat) : (rdCells (scCs s) r).setIfInBounds 2 (.int .u32 s') = rdCells (scCs s') r := rfl
abbrev errV (a : Addr) : Value := .iface 257 (.pointer (some a))
/-- what part answers -/
def partA (w' : World) (T : Nat → Tag) (t : Tag) (b : Nat) (a0 a1 : Addr) (e : Ending) : Option (Option (Bs × Bs × Nat)) → Prop
  | none => e = .returned (.tuple #[.string ⟨#[]⟩, errV a0])
  | some none => e = .returned (.tuple #[.string ⟨#[]⟩, errV a1])
  | some (some (d, rest, s)) => e = .returned (.tuple #[.string (mkB d), .nilIface]) ∧ ScB w' T t b ⟨rest, false⟩ s

set_option maxRecDepth 100000 in
set_option maxHeartbeats 2000000 in
theorem part_any (t : Tag) (b : Nat) (r : Rd) (s n : Nat) (a0 a1 : Addr) (w : World) (T : Nat → Tag) (h : ScB w T t b r s) (hL : Laid w T a0 a1) (ht : t ≠ .old) (hs : s < 256 ^ 4) (hn : n ≤ 100000000) (hr : r.short = false) :
    Calls Tryz.prog 123 #[.pointer (some ⟨b, 0, none⟩), .int .i64 n] w fun e' w' => Step (fun s => s = t) w T w' T ∧ partA w' T t b a0 a1 e' (partOf s n r.rest) := by
  have hdr := step_below (fun _ => False) T (Below.refl w.heap.size w).drew
  go_enter Tryz.func123, Tryz.ntmps123
  go_wp2_with fail
  go_region_held3 (fun _ => True) (trivial) (first | (go_at_call 147; refine (take_any t b _ _ _ 4 w1 T h1 (by omega)).mono ?_; rintro e2 w2 ⟨rfl, s2, h2⟩) | (go_at_call 147; refine (take_any t b _ _ r n _ T (h.step hdr (fun h => h)) (by omega)).mono ?_; rintro e1 w1 ⟨rfl, s1, h1⟩))
  have s3 : Step (fun s => s = t) w T w2 T := (hdr.mono (fun _ h => h.elim)).trans (s1.trans s2)
  have hL2 := hL.step s3 (fun e => ht e.symm)
  have hlen : r.rest.length ≤ 9223372036854775807 := h.2.2
  clear h h1 s1 s2 hdr hL
  by_cases hlt : r.rest.length < n + 4
  · have e : ((r.take n).2.take 4).2.short = true := by
      unfold Rd.take
      rw [hr]
      by_cases h1 : r.rest.length < n
      · simp [h1]
      · have h3 : (r.rest.drop n).length < 4 := by simp; omega
        simp [h1]
        simp at h3
        simp [h3]
    have c1 := h2.1.cell (rd_cell1 h2.2.1)
    rw [e] at c1
    have lb := h2.1.lt
    have g0 := hL2.cut.cell
    have lg := hL2.cut.lt
    have hpo := partOf_cut s n r.rest hlt
    go_wp2_with fail
    go_region
    go_wp2
    go_ret2
    exact ⟨s3.trans (step_below _ T (Below.refl _ _).drew), by rw [hpo]; rfl⟩
  have e1 : (r.take n).1 = r.rest.take n := by
    unfold Rd.take
    rw [if_neg (by rw [hr]; simp; omega)]
  have e2 : ((r.take n).2.take 4) = ((r.rest.drop n).take 4, ⟨r.rest.drop (n + 4), false⟩) := by
    unfold Rd.take
    rw [hr, if_neg (show ¬ (false = true ∨ r.rest.length < n) by simp; omega)]
    rw [if_neg (show ¬ (false = true ∨ (r.rest.drop n).length < 4) by simp; omega)]
    simp
  rw [e2] at h2
  have c1 := h2.1.cell (rd_cell1 h2.2.1)
  have c2 := h2.1.cell (sc_cell2 _ s)
  have lb := h2.1.lt
  have z2 := h2.1.frozen 2
  have hd : (mkB (r.rest.take n)).size ≤ 9000000000000000000 := by rw [mkB_size]; simp; omega
  have hsum := sum_any s hs (mkB (r.rest.take n)) hd
  rw [mkB_list] at hsum
  have hpo : partOf s n r.rest = if decN ((r.rest.drop n).take 4) = crcF s (r.rest.take n) then some (some (r.rest.take n, r.rest.drop (n + 4), crcF s (r.rest.take n))) else some none := by
    unfold partOf
    rw [if_neg hlt]
  have hs' := crcF_lt s (r.rest.take n)
  have hl4 : ((r.rest.drop n).take 4).length ≤ 6 := by simp; omega
  have hd4 : decN ((r.rest.drop n).take 4) < 256 ^ 4 := Nat.lt_of_lt_of_le (decN_lt _) (Nat.pow_le_pow_right (by decide) (by simp; omega))
  have hB2 := h2.1.set 2 (.int .u32 (crcF s (r.rest.take n)))
  rw [sc_set2] at hB2
  have hr2 : RdB (w2.setCell ⟨b, 2, none⟩ (.int .u32 (crcF s (r.rest.take n)))) T t b 163 (scCs (crcF s (r.rest.take n))) ⟨r.rest.drop (n + 4), false⟩ := ⟨hB2, (by decide : 2 ≤ 3), h2.2.2⟩
  have s4 : Step (fun s => s = t) w2 T (w2.setCell ⟨b, 2, none⟩ (.int .u32 (crcF s (r.rest.take n)))) T := step_setCell _ _ _ _ _ h2.1.1
  rw [e1, e2]
  generalize crcF s (r.rest.take n) = cs at *
  generalize hl4e : (r.rest.drop n).take 4 = l4 at *
  have hnum := number_any l4 hl4
  go_wp2_with fail
  refine (hsum w2).mono ?_
  rintro e3 w3 ⟨rfl, rfl⟩
  go_wp2_with fail
  have hL4 := hL2.step s4 (fun e => ht e.symm)
  clear hB2 c1 c2 lb z2 hL2 h2 e1 e2 hsum hl4e
  generalize w3.setCell ⟨b, 2, none⟩ (.int .u32 cs) = w4 at *
  have s5 := s3.trans s4
  clear s3 s4
  have c2 := hr2.1.cell (sc_cell2 _ cs)
  have lb := hr2.1.lt
  have hdr := step_below (fun _ => False) T (Below.refl w4.heap.size w4).drew
  go_region_held3 (fun w' => w'.cell? ⟨b, 2, none⟩ = some (.int .u32 cs)) (go_keep) (first | (go_at_call 124; refine (hnum _).mono ?_; rintro e5 w5 ⟨rfl, rfl⟩))
  have g1 := (hL4.step hdr (fun h => h)).wrong.cell
  have lg := (hL4.step hdr (fun h => h)).wrong.lt
  have hwr : IntKind.u32.wrap (decN l4 : Int) = decN l4 := by
    show ((decN l4 : Int) % 4294967296) = decN l4
    omega
  by_cases hq : decN l4 = cs
  · rw [if_pos hq] at hpo
    have hq2 : (IntKind.u32.wrap (decN l4 : Int) != (cs : Int)) = false := by rw [hwr, hq]; simp
    clear hwr
    go_wp2
    go_ret2
    exact ⟨s5.trans (step_below _ T (Below.refl _ _).drew), by rw [hpo]; exact ⟨rfl, hr2.step hdr (fun h => h)⟩⟩
  · rw [if_neg hq] at hpo
    have hq2 : (IntKind.u32.wrap (decN l4 : Int) != (cs : Int)) = true := by rw [hwr]; simp; omega
    clear hwr
    go_wp2_with fail
    go_region
    go_wp2
    go_ret2
    exact ⟨(s5.trans (step_below _ T (Below.refl _ _).drew)).trans (step_below _ T (Below.refl _ _).drew), by rw [hpo]; rfl⟩

/-- what record answers -/
def recA (w' : World) (T : Nat → Tag) (t : Tag) (b : Nat) (a0 a1 : Addr) (e : Ending) : Scan → Prop
  | .cut => ∃ v u, e = .returned (.tuple #[v, u, errV a0])
  | .wrong => ∃ v u, e = .returned (.tuple #[v, u, errV a1])
  | .got k d rest s => e = .returned (.tuple #[.int .u8 k.toNat, .string (mkB d), .nilIface]) ∧ ScB w' T t b ⟨rest, false⟩ s ∧ s < 256 ^ 4
theorem partOf_len {s n : Nat} {t d r : Bs} {s2 : Nat} (h : partOf s n t = some (some (d, r, s2))) : d.length = n ∧ s2 < 256 ^ 4 := by
  unfold partOf at h
  split at h
  · cases h
  · split at h
    · simp at h
      obtain ⟨rfl, _, rfl⟩ := h
      exact ⟨by simp; omega, crcF_lt _ _⟩
    · simp at h
set_option maxRecDepth 100000 in
set_option maxHeartbeats 2000000 in
theorem record_any (t : Tag) (b : Nat) (r : Rd) (s : Nat) (a0 a1 : Addr) (w : World) (T : Nat → Tag) (h : ScB w T t b r s) (hL : Laid w T a0 a1) (ht : t ≠ .old) (hs : s < 256 ^ 4) (hr : r.short = false) :
    Calls Tryz.prog 95 #[.pointer (some ⟨b, 0, none⟩)] w fun e' w' => Step (fun s => s = t) w T w' T ∧ recA w' T t b a0 a1 e' (scanR s r.rest) := by
  have hp := part_any t b r s 4 a0 a1 w T h hL ht hs (by omega) hr
  have hif : Tryz.prog.isIface 126 = true := by kernel_rfl
  go_enter Tryz.func95, Tryz.ntmps95
  go_wp2_with fail
  refine hp.mono ?_
  rintro e1 w1 ⟨s1, h1⟩
  cases hpo : partOf s 4 r.rest with
  | none =>
    rw [hpo] at h1
    obtain rfl := h1
    have hsc : scanR s r.rest = .cut := by unfold scanR; rw [hpo]
    go_wp2
    go_ret3
    exact ⟨s1, by rw [hsc]; exact ⟨_, _, rfl⟩⟩
  | some po =>
    rw [hpo] at h1
    cases po with
    | none =>
      obtain rfl := h1
      have hsc : scanR s r.rest = .wrong := by unfold scanR; rw [hpo]
      go_wp2
      go_ret3
      exact ⟨s1, by rw [hsc]; exact ⟨_, _, rfl⟩⟩
    | some q =>
      obtain ⟨hd, t1, s'⟩ := q
      obtain ⟨rfl, h2⟩ := h1
      obtain ⟨hlen, hs'⟩ := partOf_len hpo
      have hL1 := hL.step s1 (fun e => ht e.symm)
      obtain ⟨k, hd2, rfl⟩ : ∃ k hd2, hd = k :: hd2 := by
        cases hd with
        | nil => simp at hlen
        | cons k x => exact ⟨k, x, rfl⟩
      have hl3 : hd2.length = 3 := by simpa using hlen
      have hnum := number_any hd2 (by omega) w1
      have hdl : decN hd2 < 256 ^ 3 := by rw [← hl3]; exact decN_lt _
      have hp2 := part_any t b _ s' (decN hd2) a0 a1 w1 T h2 hL1 ht hs' (by omega) rfl
      have hsz : (mkB (k :: hd2)).size = 4 := by rw [mkB_size]; simpa using hl3
      have hex : (mkB (k :: hd2)).extract 1 4 = mkB hd2 := by
        have := mkB_drop (k :: hd2) 1 (by simp)
        rw [show (k :: hd2).length = 4 by simpa using hl3] at this
        exact this
      have hk0 : ∀ h0 : 0 < (mkB (k :: hd2)).size, ((mkB (k :: hd2))[0]'h0).toNat = k.toNat := fun _ => rfl
      have hlt0 : 0 < (mkB (k :: hd2)).size := by omega
      have hk1 := hk0 hlt0
      have hsc : scanR s r.rest = match partOf s' (decN hd2) t1 with
        | none => .cut
        | some none => .wrong
        | some (some (d, t2, s2)) => .got k d t2 s2 := by
        unfold scanR
        rw [hpo]
        rfl
      go_wp2_with fail
      refine hnum.mono ?_
      rintro e2 w2 ⟨rfl, rfl⟩
      go_wp2_with fail
      refine hp2.mono ?_
      rintro e3 w3 ⟨s3, h3⟩
      cases hpo2 : partOf s' (decN hd2) t1 with
      | none =>
        rw [hpo2] at h3 hsc
        obtain rfl := h3
        go_wp2
        go_ret3
        exact ⟨s1.trans s3, by rw [hsc]; exact ⟨_, _, rfl⟩⟩
      | some po =>
        rw [hpo2] at h3 hsc
        cases po with
        | none =>
          obtain rfl := h3
          go_wp2
          go_ret3
          exact ⟨s1.trans s3, by rw [hsc]; exact ⟨_, _, rfl⟩⟩
        | some q =>
          obtain ⟨d, t2, s2⟩ := q
          obtain ⟨rfl, h4⟩ := h3
          have hs2 := (partOf_len hpo2).2
          go_wp2
          go_ret3
          exact ⟨s1.trans s3, by rw [hsc]; exact ⟨rfl, h4, hs2⟩⟩

set_option maxHeartbeats 1000000 in
theorem mayBeCut_any (k : UInt8) (w : World) : Calls Tryz.prog 97 #[.int .u8 k.toNat] w fun e w' => e = .returned (.bool (mayCut k)) ∧ w' = w := by
  have hk : k.toNat < 256 := k.toNat_lt
  have hi : ∀ n, n < 256 → (k = UInt8.ofNat n ↔ (k.toNat : Int) = n) := fun n hn => by
    rw [← UInt8.toNat_inj, UInt8.toNat_ofNat_of_lt' (by simpa using hn)]
    omega
  have e : mayCut k = decide ((k.toNat : Int) = 101 ∨ (k.toNat : Int) = 103 ∨ (k.toNat : Int) = 114 ∨ (k.toNat : Int) = 97 ∨ (k.toNat : Int) = 102) := by
    unfold mayCut
    have h1 := hi 101 (by omega)
    have h2 := hi 103 (by omega)
    have h3 := hi 114 (by omega)
    have h4 := hi 97 (by omega)
    have h5 := hi 102 (by omega)
    simp only [show (101 : UInt8) = UInt8.ofNat 101 from rfl, show (103 : UInt8) = UInt8.ofNat 103 from rfl, show (114 : UInt8) = UInt8.ofNat 114 from rfl, show (97 : UInt8) = UInt8.ofNat 97 from rfl, show (102 : UInt8) = UInt8.ofNat 102 from rfl, h1, h2, h3, h4, h5]
    rfl
  rw [e]
  clear e hi
  generalize (k.toNat : Int) = z
  go_enter Tryz.func97, Tryz.ntmps97
  by_cases h1 : z = 101
  · go_wp2
    go_ret
    exact ⟨by simp [h1], rfl⟩
  by_cases h2 : z = 103
  · go_wp2
    go_ret
    exact ⟨by simp [h2], rfl⟩
  by_cases h3 : z = 114
  · go_wp2
    go_ret
    exact ⟨by simp [h3], rfl⟩
  by_cases h4 : z = 97
  · go_wp2
    go_ret
    exact ⟨by simp [h4], rfl⟩
  by_cases h5 : z = 102
  · go_wp2
    go_ret
    exact ⟨by simp [h5], rfl⟩
  · go_wp2
    go_ret
    exact ⟨by simp [h1, h2, h3, h4, h5], rfl⟩

end Go.Proofs.YtockkceclkcgbaaGreatDoor

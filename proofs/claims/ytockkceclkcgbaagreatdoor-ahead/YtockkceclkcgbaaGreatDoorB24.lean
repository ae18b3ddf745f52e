/- The contracts of putText, putNumbers, seal, add and addNamed: what they write. -/
import Derived.Test.YtockkceclkcgbaaGreatDoorB23
import Derived.Laws.BytesArg
import Derived.Deep.RegionHeld3
import Derived.Lib.UnsafeStr
import Derived.Lib.BufferWrite
import Derived.Laws.MakeOwn
namespace Go.Proofs.YtockkceclkcgbaaGreatDoor
open Go.RowKit

/-- a row of bytes as a text -/
theorem run_bytes_text {w : World} {T : Nat → Tag} {t : Tag} {v : Value} {l : Bs} (h : BRow w T t v l) : (convert 100 9 v).run Tryz.prog w = .ok (.string (mkB l)) w := by
  rcases h.1.2 with ⟨rfl, h0⟩ | ⟨g, cap, cur, rfl, _⟩
  · have : l = [] := List.eq_nil_of_length_eq_zero h0
    subst this
    exact (run_convert_bytes_string (P := Tryz.prog) w 100 9 5 none 0 0 Tryz.underlying100 Tryz.underlying5 Tryz.underlying9).trans (by simp [Conv.bytesToString, mkB]; rfl)
  · have hh : Row w T t 5 1 (.slice (some ⟨g, 0, none⟩) l.length cap) l.length (byteL l) := h
    have := run_convert_bytes_arg (P := Tryz.prog) w 100 5 Tryz.underlying100 Tryz.underlying5 g 0 l.length cap (l.map (fun b => (b.toNat : Int))) (by simp) (fun i hi => by
      have hc := hh.cell (j := i) (u := byteV l[i]) (by rw [byteL, List.getElem?_map, List.getElem?_eq_getElem hi]; rfl)
      rw [Nat.zero_add, hc]
      simp [byteV, List.getD_eq_getElem?_getD, hi]) 9 Tryz.underlying9
    have he : strOfNums (l.map (fun b => (b.toNat : Int))) = mkB l := by
      unfold strOfNums mkB
      rw [List.map_map]
      simp [Function.comp_def]
    rw [this, he]
theorem brow_grow {w : World} {T : Nat → Tag} {t : Tag} {v : Value} {l : Bs} (h : BRow w T t v l) : l.length ≤ maxLen := by
  rcases h.1.2 with ⟨rfl, h0⟩ | ⟨g, cap, cur, rfl, _, _, h1, h2, _⟩
  · unfold maxLen; omega
  · omega

attribute [local go_sem] over_cell

set_option maxRecDepth 100000 in
set_option maxHeartbeats 1000000 in
theorem putText_any (t : Tag) (v : Value) (l : Bs) (s : ByteArray) (w : World) (T : Nat → Tag) (h : BRow w T t v l) (hs : s.size ≤ 255) (hl : l.length ≤ 100000000000000) :
    Calls Tryz.prog 99 #[v, .string s] w fun e w' => ∃ v' T', e = .returned v' ∧ Step (fun s => s = t) w T w' T' ∧ BRow w' T' t v' (l ++ textB s) := by
  obtain ⟨ao, cap, rfl⟩ := row_form h
  have hal := step_alloc w T (.cells #[.int .u8 (s.size : Int)] 5) (fun _ => False)
  have hRa := h.step hal (fun h => h)
  have hbv : byteV (UInt8.ofNat s.size) = .int .u8 (s.size : Int) := by
    unfold byteV
    rw [UInt8.toNat_ofNat', Nat.mod_eq_of_lt (by omega)]
  have hsr := src_byte (w.alloc (.cells #[.int .u8 (s.size : Int)] 5)) w.heap.size (UInt8.ofNat s.size) (by rw [hbv]; exact (blk_new w T #[.int .u8 (s.size : Int)] 5 .free).cell (j := 0) rfl)
  go_enter Tryz.func99, Tryz.ntmps99
  go_wp2_with (first
    | (at_builtin; refine wpList_append_bytes rfl _ _ 100 rfl _ l rfl hRa _ [UInt8.ofNat s.size] rfl hsr (by simp; omega) ?_; intro v1 w1 T1 hR1 hs1; have hsr2 := Src.ofString (P := Tryz.prog) w1 (tx := 9) Tryz.underlying9 s)
    | (at_builtin; refine wpList_append_bytes rfl _ _ 9 rfl _ (l ++ [UInt8.ofNat s.size]) rfl hR1 _ s.data.toList rfl (by rw [Array.length_toList]; exact hsr2) (by simp; omega) ?_; intro v2 w2 T2 hR2 hs2)
    | go_in)
  go_ret
  exact ⟨v2, T2, rfl, ((hal.mono (fun _ h => h.elim)).trans hs1).trans hs2, by simpa [textB] using hR2⟩

def intV (n : Int) : Value := .int .i64 n
def numsB (ns : List Int) : Bs := ns.flatMap (fun n => encN 2 n.toNat)
theorem numsB_append (a b : List Int) : numsB (a ++ b) = numsB a ++ numsB b := by simp [numsB]
theorem numsB_length (ns : List Int) : (numsB ns).length = 2 * ns.length := by
  induction ns with
  | nil => rfl
  | cons x r ih =>
    have : numsB (x :: r) = encN 2 x.toNat ++ numsB r := by simp [numsB]
    rw [this, List.length_append, encN_length, ih, List.length_cons]
    omega

set_option maxRecDepth 100000 in
set_option maxHeartbeats 1000000 in
theorem putNumbers_any (t tn : Tag) (v vN : Value) (l : Bs) (ns : List Int) (w : World) (T : Nat → Tag) (h : BRow w T t v l) (hN : Row w T tn 3 1 vN ns.length (ns.map intV)) (hne : tn ≠ t) (hns : ∀ n ∈ ns, 0 ≤ n ∧ n < 65536) (hl : l.length + 2 * ns.length ≤ 100000000000000) :
    Calls Tryz.prog 94 #[v, vN] w fun e w' => ∃ v' T', e = .returned v' ∧ Step (fun s => s = t) w T w' T' ∧ BRow w' T' t v' (l ++ numsB ns) := by
  obtain ⟨ao, cap, rfl⟩ := row_form h
  obtain ⟨no, nc, rfl⟩ := row_form hN
  go_enter Tryz.func94, Tryz.ntmps94
  go_wp2_with fail
  go_loopw [0, 9] (fun u0 u9 wr => ∃ (k : Nat) (T' : Nat → Tag), k ≤ ns.length ∧ u9 = .int .i64 k ∧ Step (fun s => s = t) w T wr T' ∧ BRow wr T' t u0 (l ++ numsB (ns.take k))) (fun _ u9 _ => ns.length - (intOf u9).toNat)
  case atStart => exact ⟨0, T, Nat.zero_le _, rfl, Step.refl _ _ _, by simpa [numsB] using h⟩
  case round =>
    obtain ⟨k, T', hk, rfl, hs, hR⟩ := hrel
    obtain ⟨ao', cap', rfl⟩ := row_form hR
    by_cases hlt : k < ns.length
    · obtain ⟨n, hn⟩ : ∃ n, ns[k]? = some n := ⟨_, List.getElem?_eq_getElem hlt⟩
      have hnn := hns n (List.mem_of_getElem? hn)
      have hN2 := hN.step hs hne
      obtain ⟨gn, nc', e⟩ := row_some hN2 (by omega)
      cases e
      have c0 := hN2.cell (j := k) (u := .int .i64 n) (by rw [List.getElem?_map, hn]; rfl)
      have ln := hN2.lt
      have hnext : Hid (l ++ numsB (ns.take (k + 1)) = l ++ numsB (ns.take k) ++ encN 2 n.toNat) := hide (by
        obtain ⟨hk', rfl⟩ := List.getElem?_eq_some_iff.1 hn
        rw [← List.take_append_getElem hk', numsB_append, List.append_assoc]
        simp [numsB])
      have hlen : (l ++ numsB (ns.take k)).length ≤ 100000000000000 := by
        rw [List.length_append, numsB_length, List.length_take]
        omega
      have hput := putNumber_any t _ _ n.toNat 2 wr T' hR (by omega) (by decide) hlen
      have hnat : ((n.toNat : Nat) : Int) = n := by omega
      rw [hnat] at hput
      clear hR hN2
      generalize (l ++ numsB (ns.take k)).length = len at *
      go_wp2_with fail
      refine hput.mono ?_
      rintro e w2 ⟨v2, T2, rfl, hs2, hR2⟩
      go_wp2
      exact ⟨⟨k + 1, T2, by omega, by simp, hs.trans hs2, by rw [hnext.out]; exact hR2⟩, by simp [intOf]; omega⟩
    · have e : l ++ numsB (ns.take k) = l ++ numsB ns := by rw [List.take_of_length_le (by omega)]
      go_wp2
      go_ret
      exact ⟨.slice ao' (l ++ numsB (ns.take k)).length cap', T', rfl, hs, by rw [← e]; exact hR⟩

end Go.Proofs.YtockkceclkcgbaaGreatDoor

/- The contracts of seal, add, addNamed: a record is written behind a queue's log. -/
namespace Go.Proofs.YtockkceclkcgbaaGreatDoor
open Go.RowKit

/-- an append as one step of a region that draws its order, its outcome known ahead -/
theorem step_append_text {P : Program} {ops : Array Oper} {o : Oper} {a : Act} {w w' : World} {K : Act → World → Prop} {Q : Exit → Act → World → Prop} {E : Prop}
    (hg : o.guard = none) (s x : Operand) (t tx : TypeId) (hop : o.op = Op.call { callee := Callee.builtin Builtin.append, args := #[s, x], argTypes := #[t, tx] })
    (v y r : Value) (hs : a.eval s = v) (hx : a.eval x = y) (hr : (Builtin.append_ #[t, tx] o.type #[v, y]).run P w = .ok r w')
    (hK : K (a.put o.dst r) w') : if Region.wanted o (yielded ops a.tmps) = true then Oper.wp P o a w K Q else E := by
  have hw : Region.wanted o (yielded ops a.tmps) = true := by simp [Region.wanted, hg]
  rw [if_pos hw]
  unfold Oper.wp execOp
  simp only [hop, resolve, invoke, builtin, Sem.run_bind, Sem.run_pure, Result.andThen_ok, List.map_toArray, List.map_cons, List.map_nil, hs, hx, hr]
  exact hK

attribute [local go_sem] over_cell

/-- the blocks of the queue of number i in which its log stands, and such as bear what is written meanwhile -/
def LT (i : Nat) (t : Tag) : Prop := t = .q i 0 0 ∨ t = .q i 1 1 ∨ t = .q i 1 2

set_option maxRecDepth 100000 in
set_option maxHeartbeats 2000000 in
theorem seal_any (i b : Nat) (a0 a1 a2 a3 a4 a5 a6 a7 vL : Value) (s : Nat) (lg : Bs) (p : ByteArray) (w : World) (T : Nat → Tag) (hB : Blk w T (.q i 0 0) b #[a0, a1, a2, a3, a4, a5, a6, a7, vL, .int .u32 s] 105) (hL : BRow w T (.q i 1 1) vL lg) (hs : s < 4294967296) (hl : lg.length + p.size ≤ 90000000000000) :
    Calls Tryz.prog 78 #[.pointer (some ⟨b, 8, none⟩), .string p] w fun e w' => e = .returned (.tuple #[]) ∧ ∃ T' vL', Step (LT i) w T w' T' ∧
      Blk w' T' (.q i 0 0) b #[a0, a1, a2, a3, a4, a5, a6, a7, vL', .int .u32 (crcF s p.data.toList)] 105 ∧ BRow w' T' (.q i 1 1) vL' (lg ++ (p.data.toList ++ encN 4 (crcF s p.data.toList))) := by
  have hsum := sum_any s hs p (by omega)
  have hlt := crcF_lt s p.data.toList
  have hsz : p.data.toList.length = p.size := Array.length_toList
  generalize crcF s p.data.toList = s' at *
  have lb := hB.lt
  have c9 := hB.cell (j := 9) rfl
  have z9 := hB.frozen 9
  simp only [List.getElem_toArray, List.getElem_cons_succ, List.getElem_cons_zero] at c9
  go_enter Tryz.func78, Tryz.ntmps78
  go_wp2_with fail
  refine (hsum _).mono ?_
  rintro e w1 ⟨rfl, rfl⟩
  have hB2 := hB.set 9 (.int .u32 s')
  have s2 : Step (fun t => t = .q i 0 0) w1 T (w1.setCell ⟨b, 9, none⟩ (.int .u32 s')) T := step_setCell _ _ _ _ _ hB.1
  have hL2 := hL.step s2 (by simp)
  go_upto_region 1 with (fail)
  replace hB2 : Blk (w1.setCell ⟨b, 9, none⟩ (.int .u32 s')) T (.q i 0 0) b #[a0, a1, a2, a3, a4, a5, a6, a7, vL, .int .u32 s'] 105 := by simpa using hB2
  clear hB hL hsum c9 z9 lb
  generalize w1.setCell ⟨b, 9, none⟩ (.int .u32 s') = w2 at *
  have hdr := step_below (fun _ => False) T (Below.refl w2.heap.size w2).drew
  have hB3 := hB2.step hdr (fun h => h)
  obtain ⟨v3, w3, T3, hrun3, hR3, s3⟩ := run_append_bytes 9 100 vL lg (hL2.step hdr (fun h => h)) (.string p) p.data.toList (by rw [Array.length_toList]; exact Src.ofString (P := Tryz.prog) w2.drew Tryz.underlying9 p) (by rw [hsz]; omega)
  have hB4 := hB3.step s3 (by simp)
  have lb2 := hB2.lt
  have lb3 := hB3.lt
  have lb4 := hB4.lt
  have c8 := hB2.cell (j := 8) rfl
  have c9 := hB2.cell (j := 9) rfl
  have d8 := hB3.cell (j := 8) rfl
  have d9 := hB3.cell (j := 9) rfl
  have e8 := hB4.cell (j := 8) rfl
  have e9 := hB4.cell (j := 9) rfl
  have z8 := hB4.frozen 8
  simp only [List.getElem_toArray, List.getElem_cons_succ, List.getElem_cons_zero] at c8 c9 d8 d9 e8 e9
  have hput := putNumber_any (.q i 1 1) v3 _ s' 4 w3 T3 hR3 (by omega) (by decide) (by rw [List.length_append, hsz]; omega)
  have s03 : Step (LT i) w1 T w3 T3 := (s2.mono (fun _ h => .inl h)).trans ((hdr.mono (fun _ h => h.elim)).trans (s3.mono (fun _ h => .inr (.inl h))))
  have hwr : IntKind.i64.wrap (s' : Int) = s' := by rw [IntWalk.i64_left, IntWalk.wrap64_in _ ⟨by omega, by omega⟩]
  replace hput : Calls Tryz.prog 79 #[v3, .int .i64 (s' : Int), .int .i64 4] w3 fun e w' => ∃ v' T', e = .returned v' ∧ Step (fun s => s = .q i 1 1) w3 T3 w' T' ∧ BRow w' T' (.q i 1 1) v' (lg ++ p.data.toList ++ encN 4 s') := hput
  clear hB2 hB3 hL2 hdr s3 hR3 s2 hlt hs hl hsz
  go_region_law (first
    | (go_simp; go_at_call 79; refine hput.mono ?_; rintro e w5 ⟨v5, T5, rfl, s5, hR5⟩; obtain ⟨ao5, cap5, rfl⟩ := row_form hR5; generalize hlen5 : (lg ++ p.data.toList ++ encN 4 s').length = n5 at hR5; have hB5 := hB4.step s5 (by simp); have lb5 := hB5.lt; have f8 := hB5.cell (j := 8) rfl; have f9 := hB5.cell (j := 9) rfl; have y8 := hB5.frozen 8; simp only [List.getElem_toArray, List.getElem_cons_succ, List.getElem_cons_zero] at f8 f9)
    | (refine step_append_text rfl _ _ 100 9 rfl _ _ _ rfl rfl hrun3 ?_))
  all_goals
    have hB6 := hB5.set 8 (.slice ao5 n5 cap5)
    have s6 : Step (fun t => t = .q i 0 0) w5 T5 (w5.setCell ⟨b, 8, none⟩ (.slice ao5 n5 cap5)) T5 := step_setCell _ _ _ _ _ hB5.1
    go_wp2
    go_end0
    exact ⟨rfl, T5, .slice ao5 n5 cap5, (s03.trans (s5.mono (fun _ h => .inr (.inl h)))).trans (s6.mono (fun _ h => .inl h)), by simpa using hB6, by rw [← List.append_assoc]; exact hR5.step s6 (by simp)⟩

end Go.Proofs.YtockkceclkcgbaaGreatDoor

/- The contracts of add, addNamed and newJournal: a record is written behind a queue's log. -/
namespace Go.Proofs.YtockkceclkcgbaaGreatDoor
open Go.RowKit

attribute [local go_sem] over_cell

theorem brow_one (w : World) (T : Nat → Tag) (t : Tag) (k : UInt8) : BRow (w.alloc (.cells #[.int .u8 (k.toNat : Int)] 5)) (retag T w.heap.size t) t (.slice (some ⟨w.heap.size, 0, none⟩) 1 1) [k] :=
  ⟨⟨rfl, .inr ⟨w.heap.size, 1, _, rfl, Nat.zero_le _, heap_alloc_new w _, Nat.le_refl _, by decide, rfl, rfl⟩⟩, fun g hg => by simp [Value.ownBlock] at hg; subst hg; exact retag_same _ _ _⟩

set_option maxRecDepth 100000 in
set_option maxHeartbeats 2000000 in
theorem add_any (i b : Nat) (a0 a1 a2 a3 a4 a5 a6 a7 vL : Value) (s : Nat) (lg : Bs) (k : UInt8) (p : ByteArray) (w : World) (T : Nat → Tag) (hB : Blk w T (.q i 0 0) b #[a0, a1, a2, a3, a4, a5, a6, a7, vL, .int .u32 s] 105) (hL : BRow w T (.q i 1 1) vL lg) (hs : s < 4294967296) (hl : lg.length + p.size ≤ 80000000000000) :
    Calls Tryz.prog 42 #[.pointer (some ⟨b, 8, none⟩), .int .u8 k.toNat, .string p] w fun e w' => e = .returned (.tuple #[]) ∧ ∃ T' vL', Step (LT i) w T w' T' ∧
      Blk w' T' (.q i 0 0) b #[a0, a1, a2, a3, a4, a5, a6, a7, vL', .int .u32 (recS s k p.data.toList)] 105 ∧ BRow w' T' (.q i 1 1) vL' (lg ++ recB s k p.data.toList) := by
  have hsz : p.data.toList.length = p.size := Array.length_toList
  have s1 := step_new w T (.cells #[.int .u8 (k.toNat : Int)] 5) (.q i 1 2) (fun _ => False)
  have r1 := brow_one w T (.q i 1 2) k
  have hput := putNumber_any (.q i 1 2) _ [k] p.size 3 _ _ r1 (by omega) (by decide) (by simp)
  have hB1 := hB.step s1 (fun h => h)
  have hL1 := hL.step s1 (fun h => h)
  clear r1
  go_enter Tryz.func42, Tryz.ntmps42
  go_wp2_with fail
  refine hput.mono ?_
  rintro e w2 ⟨v2, T2, rfl, s2, r2⟩
  have hconv := run_bytes_text r2
  have hB2 := hB1.step s2 (by simp)
  have hL2 := hL1.step s2 (by simp)
  have hhead : [k] ++ encN 3 p.size = headB k p.data.toList := by rw [headB, hsz]; rfl
  rw [hhead] at hconv
  have hseal := seal_any i b a0 a1 a2 a3 a4 a5 a6 a7 vL s lg (mkB (headB k p.data.toList)) w2 T2 hB2 hL2 hs (by rw [mkB_size, headB_length]; omega)
  rw [mkB_list] at hseal
  have s02 : Step (LT i) w T w2 T2 := (s1.mono (fun _ h => h.elim)).trans (s2.mono (fun _ h => .inr (.inr h)))
  go_wp2_with fail
  refine hseal.mono ?_
  rintro e w3 ⟨rfl, T3, vL3, s3, hB3, hL3⟩
  have hlt := crcF_lt s (headB k p.data.toList)
  have hseal2 := seal_any i b a0 a1 a2 a3 a4 a5 a6 a7 vL3 _ _ p w3 T3 hB3 hL3 (by simpa using hlt) (by simp [headB_length, encN_length]; omega)
  go_wp2_with fail
  refine hseal2.mono ?_
  rintro e w4 ⟨rfl, T4, vL4, s4, hB4, hL4⟩
  go_wp2
  go_end0
  refine ⟨rfl, T4, vL4, (s02.trans s3).trans s4, hB4, ?_⟩
  have e2 : lg ++ recB s k p.data.toList = lg ++ (headB k p.data.toList ++ encN 4 (crcF s (headB k p.data.toList))) ++ (p.data.toList ++ encN 4 (crcF (crcF s (headB k p.data.toList)) p.data.toList)) := by simp [recB, recS, headS]
  rw [e2]
  exact hL4

end Go.Proofs.YtockkceclkcgbaaGreatDoor

/- The contracts of addNamed and newJournal. -/
namespace Go.Proofs.YtockkceclkcgbaaGreatDoor
open Go.RowKit

attribute [local go_sem] over_cell

def namedB (s : ByteArray) (ns : List Int) : Bs := textB s ++ numsB ns
theorem namedB_length (s : ByteArray) (ns : List Int) : (namedB s ns).length = s.size + 1 + 2 * ns.length := by
  have : s.data.toList.length = s.size := Array.length_toList
  simp [namedB, textB, numsB_length]
  omega

set_option maxRecDepth 100000 in
set_option maxHeartbeats 2000000 in
theorem addNamed_any (i b : Nat) (a0 a1 a2 a3 a4 a5 a6 a7 vL vN : Value) (s : Nat) (lg : Bs) (k : UInt8) (nm : ByteArray) (tn : Tag) (ns : List Int) (w : World) (T : Nat → Tag) (hB : Blk w T (.q i 0 0) b #[a0, a1, a2, a3, a4, a5, a6, a7, vL, .int .u32 s] 105) (hL : BRow w T (.q i 1 1) vL lg)
    (hN : Row w T tn 3 1 vN ns.length (ns.map intV)) (hne : tn ≠ .q i 1 2) (hns : ∀ n ∈ ns, 0 ≤ n ∧ n < 65536) (hnm : nm.size ≤ 255) (hs : s < 4294967296) (hl : lg.length + ns.length ≤ 10000000000000) (hl2 : ns.length ≤ 10000000000) :
    Calls Tryz.prog 72 #[.pointer (some ⟨b, 8, none⟩), .int .u8 k.toNat, .string nm, vN] w fun e w' => e = .returned (.tuple #[]) ∧ ∃ T' vL', Step (LT i) w T w' T' ∧
      Blk w' T' (.q i 0 0) b #[a0, a1, a2, a3, a4, a5, a6, a7, vL', .int .u32 (recS s k (namedB nm ns))] 105 ∧ BRow w' T' (.q i 1 1) vL' (lg ++ recB s k (namedB nm ns)) := by
  obtain ⟨no, nc, rfl⟩ := row_form hN
  have hpt := putText_any (.q i 1 2) _ [] nm w T (brow_nil _ _ _) hnm (by simp)
  have hlen := namedB_length nm ns
  go_enter Tryz.func72, Tryz.ntmps72
  go_wp2_with fail
  refine hpt.mono ?_
  rintro e w1 ⟨v1, T1, rfl, s1, r1⟩
  have hpn := putNumbers_any (.q i 1 2) tn v1 _ _ ns w1 T1 r1 (hN.step s1 hne) hne hns (by simp [textB]; omega)
  go_wp2_with fail
  refine hpn.mono ?_
  rintro e w2 ⟨v2, T2, rfl, s2, r2⟩
  have hconv := run_bytes_text r2
  rw [List.nil_append, show textB nm ++ numsB ns = namedB nm ns from rfl] at hconv
  have s02 : Step (fun t => t = .q i 1 2) w T w2 T2 := s1.trans s2
  have hadd := add_any i b a0 a1 a2 a3 a4 a5 a6 a7 vL s lg k (mkB (namedB nm ns)) w2 T2 (hB.step s02 (by simp)) (hL.step s02 (by simp)) hs (by rw [mkB_size]; omega)
  rw [mkB_list] at hadd
  go_wp2_with fail
  refine hadd.mono ?_
  rintro e w3 ⟨rfl, T3, vL3, s3, hB3, hL3⟩
  go_wp2
  go_end0
  exact ⟨rfl, T3, vL3, (s02.mono (fun _ h => .inr (.inr h))).trans s3, hB3, hL3⟩

theorem Step.setFresh {S : Tag → Prop} {w w1 : World} {T T1 : Nat → Tag} (h : Step S w T w1 T1) {c : Nat} (hc : w.heap.size ≤ c) (j : Nat) (v : Value) : Step S w T (w1.setCell ⟨c, j, none⟩ v) T1 := by
  have hk := kept_setCell w1 ⟨c, j, none⟩ v
  exact ⟨hk.os.trans h.os, hk.tape.trans h.tape, hk.output.trans h.output, Nat.le_trans h.size hk.size, h.tag, fun k hk1 hn => (hk.block k (by have := h.size; omega) (fun e => by have e' : k = c := e; omega)).trans (h.block k hk1 hn)⟩
theorem seed_bytes (c : Conf) : numsB [c.l, c.d, c.s, c.k] = encN 2 c.l.toNat ++ (encN 2 c.d.toNat ++ (encN 2 c.s.toNat ++ encN 2 c.k.toNat)) := by simp [numsB]
theorem row_four (w : World) (T : Nat → Tag) (t : Tag) (a b c d : Int) : Row (w.alloc (.cells #[.int .i64 a, .int .i64 b, .int .i64 c, .int .i64 d] 3)) (retag T w.heap.size t) t 3 1 (.slice (some ⟨w.heap.size, 0, none⟩) 4 4) 4 ([a, b, c, d].map intV) :=
  ⟨⟨rfl, .inr ⟨w.heap.size, 4, _, rfl, Nat.zero_le _, heap_alloc_new w _, Nat.le_refl _, by decide, rfl, rfl⟩⟩, fun g hg => by simp [Value.ownBlock] at hg; subst hg; exact retag_same _ _ _⟩

set_option maxRecDepth 100000 in
set_option maxHeartbeats 2000000 in
theorem newJournal_any (i : Nat) (c : Conf) (hc : goodC c = true) (w : World) (T : Nat → Tag) :
    Calls Tryz.prog 63 #[.agg c.cells] w fun e w' => e = .returned (.agg #[.slice none 0 0, .int .u32 (seedS c)]) ∧ ∃ T', Step (fun t => t = .q i 1 2) w T w' T' := by
  have hg := good_all hc
  have a1 := step_alloc w T (.cells c.cells 23) (fun _ => False)
  have a2 := step_new (w.alloc (.cells c.cells 23)) T (.cells #[.slice none 0 0, .int .u32 0] 103) .free (fun _ => False)
  have b2 := blk_new (w.alloc (.cells c.cells 23)) T #[.slice none 0 0, .int .u32 0] 103 .free
  have z2 : ((w.alloc (.cells c.cells 23)).alloc (.cells #[.slice none 0 0, .int .u32 0] 103)).heap.size = w.heap.size + 1 + 1 := by simp
  have z1 : (w.alloc (.cells c.cells 23)).heap.size = w.heap.size + 1 := by simp
  rw [z1] at a2 b2
  have a3 := step_new ((w.alloc (.cells c.cells 23)).alloc (.cells #[.slice none 0 0, .int .u32 0] 103)) (retag T (w.heap.size + 1) .free) (.cells #[.int .i64 c.l, .int .i64 c.d, .int .i64 c.s, .int .i64 c.k] 3) (.q i 1 3) (fun _ => False)
  have r3 := row_four ((w.alloc (.cells c.cells 23)).alloc (.cells #[.slice none 0 0, .int .u32 0] 103)) (retag T (w.heap.size + 1) .free) (.q i 1 3) c.l c.d c.s c.k
  rw [z2] at a3 r3
  have a13 := a1.trans (a2.trans a3)
  have b3 := b2.step a3 (fun h => h)
  have hpn := putNumbers_any (.q i 1 2) (.q i 1 3) _ _ [] [c.l, c.d, c.s, c.k] _ _ (brow_nil _ _ _) r3 (by simp) (by simp; omega) (by simp)
  clear r3 a1 a2 a3 b2 z1 z2
  go_enter Tryz.func63, Tryz.ntmps63
  go_wp2_with fail
  refine hpn.mono ?_
  rintro e w4 ⟨v4, T4, rfl, s4, r4⟩
  have hconv := run_bytes_text r4
  have b4 := b3.step s4 (by simp)
  have hsum := sum_any 0 (by decide) (mkB (numsB [c.l, c.d, c.s, c.k])) (by rw [mkB_size, numsB_length]; simp)
  rw [mkB_list, seed_bytes] at hsum
  rw [List.nil_append, seed_bytes] at hconv
  have hcr : Hid (crcF 0 (encN 2 c.l.toNat ++ (encN 2 c.d.toNat ++ (encN 2 c.s.toNat ++ encN 2 c.k.toNat))) = seedS c) := hide rfl
  rw [hcr.out] at hsum
  generalize (encN 2 c.l.toNat ++ (encN 2 c.d.toNat ++ (encN 2 c.s.toNat ++ encN 2 c.k.toNat))) = bs at *
  have l4 := b4.lt
  have q0 := b4.cell (j := 0) rfl
  have q1 := b4.cell (j := 1) rfl
  have f0 := b4.frozen 0
  have f1 := b4.frozen 1
  simp only [List.getElem_toArray, List.getElem_cons_succ, List.getElem_cons_zero] at q0 q1
  go_wp2_with fail
  refine (hsum _).mono ?_
  rintro e w5 ⟨rfl, rfl⟩
  go_wp2
  have b5 := (b4.set 0 (.slice none 0 0)).set 1 (.int .u32 (seedS c))
  have r0 := b5.cell (j := 0) (v := .slice none 0 0) (by simp)
  have r1 := b5.cell (j := 1) (v := .int .u32 (seedS c)) (by simp)
  refine bodyPost_ret (v := .agg #[.slice none 0 0, .int .u32 (seedS c)]) ?_ rfl ⟨rfl, T4, ?_⟩
  · simp [results, Tryz.results63, go_sem, r0, r1]
  · have h := (a13.mono (fun _ h => (h.elim : _ = Tag.q i 1 2))).trans s4
    exact (h.setFresh (by omega) _ _).setFresh (by omega) _ _

end Go.Proofs.YtockkceclkcgbaaGreatDoor

/- The contract of strings.Clone: the same bytes, in memory of their own. -/
namespace Go.Proofs.YtockkceclkcgbaaGreatDoor
open Go.RowKit

theorem infoU8 : (Tryz.prog.info? 5).map (fun i => (i.zero, i.size, i.bytes)) = some (some (.int .u8 0), 1, 1) := by kernel_rfl
theorem cellsU8 : Tryz.prog.cellsOf 5 = 1 := by kernel_rfl

set_option maxHeartbeats 2000000 in
set_option maxRecDepth 100000 in
theorem clone_inner (s : ByteArray) (w : World) (hlim : s.size ≤ 140737488355328) :
    Calls Tryz.prog 148 #[.string s] w fun e w' => e = .returned (.string s) ∧ Below w.heap.size w w' := by
  by_cases h0 : s.size = 0
  · have hs : s = ⟨#[]⟩ := ByteArray.ext (Array.eq_empty_of_size_eq_zero h0)
    subst hs
    go_enter Tryz.func148, Tryz.ntmps148
    go_wp2
    go_ret
    exact ⟨rfl, Below.refl _ _⟩
  obtain ⟨i0, hi, hz0, hz1, hz2⟩ := info_parts infoU8
  have hsize : (Tryz.prog.info? 5).map (·.size) = some 1 := by rw [hi]; simp [hz1]
  obtain ⟨row, hrow⟩ : ∃ row, row = madeCells (Value.int .u8 0).cells (((s.size : Nat) : Int).toNat * i0.size) := ⟨_, rfl⟩
  have hlen : row.size = s.size := by rw [hrow, size_madeCells, hz1]; simp
  have hmake : ∀ v : World, (Instr.makeSlice 100 (.int .i64 (s.size : Int)) (.int .i64 (s.size : Int))).run Tryz.prog v = .ok (.slice (some ⟨v.heap.size, 0, none⟩) s.size s.size) (v.alloc (.cells row 5)) := fun v => by
    have h := run_make (P := Tryz.prog) v 100 5 i0 (.int .u8 0) Tryz.underlying100 hi hz0 .i64 .i64 (s.size : Int) (s.size : Int) (by omega) (by omega) (by rw [hz2]; omega) (by omega)
    rw [← hrow] at h
    simpa using h
  clear hrow
  have hcopy := Lib.run_copy_row_string (P := Tryz.prog) (w.alloc (.cells row 5)) 100 9 3 5 w.heap.size 0 s.size s.size s row 5 Tryz.underlying100 hsize (heap_alloc_new w _) (Nat.le_refl _) (by omega)
  obtain ⟨full, hfull⟩ : ∃ full, full = (row.toList.take 0 ++ Lib.byteCells s.data.toList ++ row.toList.drop (0 + s.size)).toArray := ⟨_, rfl⟩
  rw [← hfull] at hcopy
  have hlist : full.toList = Lib.byteCells s.data.toList := by
    rw [hfull, List.toList_toArray, List.take_zero, List.nil_append, List.drop_of_length_le (by rw [Array.length_toList]; omega), List.append_nil]
  have hfs : full.size = s.size := by rw [← Array.length_toList, hlist, Lib.byteCells_length, ← Lib.size_eq]
  have hblk : ((w.alloc (.cells row 5)).setRow w.heap.size full).heap[w.heap.size]? = some (.cells full 5 (0, 0)) := setRow_heap _ _ row _ 5 (0, 0) (heap_alloc_new w _)
  have hne : s.data.toList ≠ [] := fun e => h0 (by rw [Lib.size_eq, e]; rfl)
  have hstr := Lib.run_unsafeString_row (P := Tryz.prog) ((w.alloc (.cells row 5)).setRow w.heap.size full) 232 3 9 5 Tryz.underlying232 cellsU8 w.heap.size full.size (by unfold World.shape?; rw [hblk]) s.data.toList hne (by rw [← Lib.size_eq]; omega) (by rw [← Lib.size_eq]; omega)
    (fun j x hx => Lib.cells_of_row hblk full.size j _ (by rw [List.take_of_length_le (by rw [Array.length_toList]; exact Nat.le_refl _), hlist]; simp [Lib.byteCells, hx]))
  rw [← Lib.size_eq] at hstr
  clear hfull
  go_enter Tryz.func148, Tryz.ntmps148
  go_wp2
  go_ret
  have b1 : Below w.heap.size w (w.alloc (.cells row 5)) := (Below.refl _ w).alloc (Nat.le_refl _) _
  have b2 : Below w.heap.size (w.alloc (.cells row 5)) ((w.alloc (.cells row 5)).setRow w.heap.size full) := ⟨rfl, rfl, rfl, by simp, fun k hk => setRow_other _ _ _ _ (by omega)⟩
  exact ⟨rfl, Lib.below_freeze (b1.trans b2) (p := ⟨w.heap.size, 0, none⟩) (Nat.le_refl _) _⟩

set_option maxHeartbeats 1000000 in
theorem clone_any (s : ByteArray) (w : World) (hlim : s.size ≤ 140737488355328) :
    Calls Tryz.prog 127 #[.string s] w fun e w' => e = .returned (.string s) ∧ Below w.heap.size w w' := by
  go_enter Tryz.func127, Tryz.ntmps127
  go_wp2_with fail
  refine (clone_inner s w hlim).mono ?_
  rintro e w1 ⟨rfl, hb⟩
  go_wp2
  go_ret
  exact ⟨rfl, hb⟩

end Go.Proofs.YtockkceclkcgbaaGreatDoor

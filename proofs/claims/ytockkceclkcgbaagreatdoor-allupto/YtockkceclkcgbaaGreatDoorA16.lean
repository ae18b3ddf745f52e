/- The document's Receive as one walk over the messages that may be delivered: first those that come again, then the new ones. -/
import Derived.Test.YtockkceclkcgbaaGreatDoorA15
import Derived.OpenShut
namespace Go.Proofs.YtockkceclkcgbaaGreatDoor
open Go.RowKit

/-- a message is looked at -/
def visit (m : MQ) (start : Int) (st : RS) (v : Nat) : RS := match st.items[v]? with
  | none => st
  | some x => recvOne m start st v x
def takeV (m : MQ) (start n : Int) : List Nat → RS → RS
  | [], st => st
  | v :: r, st => bif decide (n ≤ st.out.length) then st else takeV m start n r (visit m start st v)

def triedB (l : List It) (v : Nat) : Bool := match l[v]? with | some x => !decide (x.tries = 0) | none => false
def freshB (l : List It) (v : Nat) : Bool := match l[v]? with | some x => decide (x.tries = 0) | none => false
def candB (m : MQ) (g : MG) (v : Nat) : Bool := match g.items[v]? with | some x => !passed m g.start v x | none => false
/-- what may be delivered again, among the first k; what is new -/
def againTo (m : MQ) (g : MG) (k : Nat) : List Nat := ((List.range k).filter (triedB g.items)).filter (candB m g)
def newTo (m : MQ) (g : MG) (k : Nat) : List Nat := ((List.range k).filter (freshB g.items)).filter (candB m g)

theorem takeV_full {m : MQ} {start n : Int} {st : RS} (h : n ≤ st.out.length) (l : List Nat) : takeV m start n l st = st := by
  cases l with
  | nil => rfl
  | cons v r => simp [takeV, h]
theorem visit_items {m : MQ} {start : Int} {st : RS} {v j : Nat} (h : j ≠ v) : (visit m start st v).items[j]? = st.items[j]? := by
  unfold visit
  cases hx : st.items[v]? with
  | none => rfl
  | some x =>
    simp only [recvOne]
    have hv : ¬ v = j := fun e => h e.symm
    cases passed m start v x
    · cases decide (m.c.d ≤ x.tries)
      · simp [hv]
      · simp [hv]
    · rfl

theorem freshTo_filter (l : List It) : ∀ k, freshTo l k = (List.range k).filter (freshB l)
  | 0 => rfl
  | k + 1 => by
    have ih := freshTo_filter l k
    rw [List.range_succ, List.filter_append, ← ih, freshTo]
    cases hx : l[k]? with
    | none => simp [freshB, hx]
    | some x => by_cases h : x.tries = 0 <;> simp [freshB, hx, h]

theorem run_fresh {m : MQ} {start n : Int} {fr : List Nat} : ∀ (f j : Nat) (st : RS), f = fr.length - j → recvRun m start fr n f (m.bodies.length + j) st = takeV m start n (fr.drop j) st
  | 0, j, st, h => by
    rw [List.drop_eq_nil_of_le (by omega)]
    rfl
  | f + 1, j, st, h => by
    have hj : j < fr.length := by omega
    rw [List.drop_eq_getElem_cons hj]
    unfold recvRun takeV
    cases decide (n ≤ st.out.length)
    · simp only [cond_false]
      have ih := run_fresh (m := m) (start := start) (n := n) (fr := fr) f (j + 1) (visit m start st fr[j]) (by omega)
      rw [← ih, Nat.add_assoc]
      congr 1
      have hk : ¬ m.bodies.length + j < m.bodies.length := by omega
      simp only [recvStep, visit, hk, decide_false, cond_false, Nat.add_sub_cancel_left, List.getElem?_eq_getElem hj]
      cases st.items[fr[j]]? <;> rfl
    · rfl

theorem run_again {m : MQ} {start n : Int} {fr : List Nat} {items : List It} (hl : items.length = m.bodies.length) : ∀ (d k : Nat) (st : RS), k + d = m.bodies.length → (∀ j, k ≤ j → st.items[j]? = items[j]?) →
    recvRun m start fr n (d + fr.length) k st = takeV m start n ((List.range' k d).filter (triedB items) ++ fr) st
  | 0, k, st, hk, _ => by
    have := run_fresh (m := m) (start := start) (n := n) (fr := fr) fr.length 0 st (by omega)
    have hk2 : k = m.bodies.length := by omega
    subst hk2
    simpa using this
  | d + 1, k, st, hk, hst => by
    obtain ⟨x, hx⟩ : ∃ x, items[k]? = some x := ⟨_, List.getElem?_eq_getElem (by omega)⟩
    have hsx : st.items[k]? = some x := (hst k (Nat.le_refl _)).trans hx
    rw [show d + 1 + fr.length = (d + fr.length) + 1 by omega, List.range'_succ]
    unfold recvRun
    by_cases hf : n ≤ st.out.length
    · rw [takeV_full hf]
      simp [hf]
    · simp only [hf, decide_false, cond_false]
      have hlt : k < m.bodies.length := by omega
      by_cases ht : x.tries = 0
      · have e1 : recvStep m start fr st k = st := by simp [recvStep, hlt, hsx, ht]
        rw [e1, run_again hl d (k + 1) st (by omega) (fun j hj => hst j (by omega))]
        simp [triedB, hx, ht]
      · have e1 : recvStep m start fr st k = visit m start st k := by simp [recvStep, visit, hlt, hsx, ht]
        rw [e1, run_again hl d (k + 1) _ (by omega) (fun j hj => (visit_items (by omega)).trans (hst j (by omega)))]
        have e2 : (k :: List.range' (k + 1) d).filter (triedB items) = k :: (List.range' (k + 1) d).filter (triedB items) := by simp [triedB, hx, ht]
        rw [e2]
        simp [takeV, hf]

theorem takeV_cand {m : MQ} {g : MG} {n : Int} : ∀ (l : List Nat) (st : RS), l.Nodup → (∀ v ∈ l, st.items[v]? = g.items[v]?) → takeV m g.start n l st = takeV m g.start n (l.filter (candB m g)) st
  | [], _, _, _ => rfl
  | v :: r, st, hn, hst => by
    have hv := hst v (by simp)
    obtain ⟨hn1, hn2⟩ := List.nodup_cons.1 hn
    by_cases hf : n ≤ st.out.length
    · rw [takeV_full hf, takeV_full hf]
    · cases hc : candB m g v with
      | true =>
        rw [List.filter_cons_of_pos hc]
        simp only [takeV, hf, decide_false, cond_false]
        exact takeV_cand r _ hn2 (fun j hj => (visit_items (fun e => hn1 (by rw [← e]; exact hj))).trans (hst j (by simp [hj])))
      | false =>
        rw [List.filter_cons_of_neg (by simp [hc])]
        have e : visit m g.start st v = st := by
          unfold visit
          rw [hv]
          unfold candB at hc
          cases hx : g.items[v]? with
          | none => rfl
          | some x =>
            rw [hx] at hc
            simp only [Bool.not_eq_false'] at hc
            simp [recvOne, hc]
        simp only [takeV, hf, decide_false, cond_false, e]
        exact takeV_cand r st hn2 (fun j hj => hst j (by simp [hj]))

/-- what the walk is over: in their order, none twice, each may be delivered -/
theorem cands_nodup (_m : MQ) (g : MG) (k : Nat) : ((List.range k).filter (triedB g.items) ++ (List.range k).filter (freshB g.items)).Nodup := by
  refine List.nodup_append.2 ⟨List.nodup_range.filter _, List.nodup_range.filter _, fun a ha b hb e => ?_⟩
  subst e
  have h1 := (List.mem_filter.1 ha).2
  have h2 := (List.mem_filter.1 hb).2
  unfold triedB at h1
  unfold freshB at h2
  cases hx : g.items[a]? with
  | none => rw [hx] at h1; cases h1
  | some x =>
    rw [hx] at h1 h2
    simp at h1 h2
    exact h1 h2

theorem recvAll_take {m : MQ} {g : MG} {n : Int} (hl : g.items.length = m.bodies.length) :
    recvAll m g n = takeV m g.start n (againTo m g m.bodies.length ++ newTo m g m.bodies.length) ⟨g.items, g.dead, m.changes, []⟩ := by
  unfold recvAll
  rw [freshTo_filter, hl, run_again hl m.bodies.length 0 _ (by omega) (fun _ _ => rfl), takeV_cand _ _ ?_ (fun _ _ => rfl)]
  · rw [List.filter_append, ← List.range_eq_range']
    rfl
  · rw [← List.range_eq_range']
    exact cands_nodup m g _
theorem take_nodup (m : MQ) (g : MG) (k : Nat) : (againTo m g k ++ newTo m g k).Nodup := by
  rw [againTo, newTo, ← List.filter_append]
  exact (cands_nodup m g k).filter _
theorem take_cand {m : MQ} {g : MG} {k v : Nat} (h : v ∈ againTo m g k ++ newTo m g k) : ∃ x, g.items[v]? = some x ∧ passed m g.start v x = false := by
  rw [againTo, newTo, ← List.filter_append] at h
  have h1 := (List.mem_filter.1 h).2
  unfold candB at h1
  cases hx : g.items[v]? with
  | none => rw [hx] at h1; cases h1
  | some x =>
    rw [hx] at h1
    exact ⟨x, rfl, by simpa using h1⟩

theorem cands_few {c : Nat → Bool} {a : Nat} (h : ∀ v, v < a → c v = false) : ∀ k, ((List.range k).filter c).length ≤ k - a
  | 0 => by simp
  | k + 1 => by
    have ih := cands_few h k
    rw [List.range_succ, List.filter_append, List.length_append]
    by_cases hk : k < a
    · simp [h k hk]; omega
    · have : ([k].filter c).length ≤ 1 := List.length_filter_le _ _
      omega
theorem candB_low {m : MQ} {g : MG} {v : Nat} (h : (v : Int) < m.floor ∨ (v : Int) < g.start) : candB m g v = false := by
  unfold candB
  cases g.items[v]? with
  | none => rfl
  | some x => rcases h with h | h <;> simp [passed, h]
theorem againTo_few {m : MQ} {g : MG} {k a : Nat} (h : ∀ v, v < a → candB m g v = false) : (againTo m g k).length ≤ k - a := by
  rw [againTo, List.filter_filter]
  exact cands_few (fun v hv => by simp [h v hv]) k
theorem newTo_few {m : MQ} {g : MG} {k a : Nat} (h : ∀ v, v < a → candB m g v = false) : (newTo m g k).length ≤ k - a := by
  rw [newTo, List.filter_filter]
  exact cands_few (fun v hv => by simp [h v hv]) k
theorem againTo_low {m : MQ} {g : MG} {a : Nat} (h : ∀ v, v < a → candB m g v = false) : againTo m g a = [] := List.eq_nil_of_length_eq_zero (by have := againTo_few (k := a) h; omega)
theorem newTo_low {m : MQ} {g : MG} {a : Nat} (h : ∀ v, v < a → candB m g v = false) : newTo m g a = [] := List.eq_nil_of_length_eq_zero (by have := newTo_few (k := a) h; omega)

theorem againTo_skip {m : MQ} {g : MG} {k : Nat} (h : candB m g k = false) : againTo m g (k + 1) = againTo m g k := by
  simp only [againTo, List.filter_filter, List.range_succ, List.filter_append]
  simp [h]
theorem newTo_skip {m : MQ} {g : MG} {k : Nat} (h : candB m g k = false) : newTo m g (k + 1) = newTo m g k := by
  simp only [newTo, List.filter_filter, List.range_succ, List.filter_append]
  simp [h]
theorem againTo_yes {m : MQ} {g : MG} {k : Nat} {x : It} (h : candB m g k = true) (hx : g.items[k]? = some x) (ht : x.tries ≠ 0) : againTo m g (k + 1) = againTo m g k ++ [k] ∧ newTo m g (k + 1) = newTo m g k := by
  simp only [againTo, newTo, List.filter_filter, List.range_succ, List.filter_append]
  simp [h, triedB, freshB, hx, ht]
theorem newTo_yes {m : MQ} {g : MG} {k : Nat} {x : It} (h : candB m g k = true) (hx : g.items[k]? = some x) (ht : x.tries = 0) : againTo m g (k + 1) = againTo m g k ∧ newTo m g (k + 1) = newTo m g k ++ [k] := by
  simp only [againTo, newTo, List.filter_filter, List.range_succ, List.filter_append]
  simp [h, triedB, freshB, hx, ht]

/-- may it be delivered, in the program's words -/
theorem cand_words {m : MQ} {g : MG} {p : PG} {k : Nat} {x : It} (hr : RelG m g p) (hx : g.items[k]? = some x) (h1 : m.floor ≤ k) (h2 : g.start ≤ k) : candB m g k = !((p.wt k).isSome || hasB p.done k) := by
  have q1 : ¬ (k : Int) < m.floor := by omega
  have q2 : ¬ (k : Int) < g.start := by omega
  rw [hr.wt, hr.done, doneB_at, itemAt_nat, hx]
  simp only [candB, hx, passed, q1, q2, decide_false, Bool.false_or, waitOf]
  by_cases h3 : 0 < x.done <;> by_cases h4 : m.time < x.till <;> by_cases h5 : m.time < x.after <;> simp [h3, h4, h5]

end Go.Proofs.YtockkceclkcgbaaGreatDoor

/- The sum of a text, as a function of what was summed before (what it is does not matter, but that it has four bytes): the contract of sum. -/
namespace Go.Proofs.YtockkceclkcgbaaGreatDoor
open Go.RowKit

abbrev Bs := List UInt8
def mkB (l : Bs) : ByteArray := ⟨l.toArray⟩
def halfStep (s : Int) : Int := bits .xor .u32 (s / 2) (bits .and .u32 s 1 * 3988292384 % 4294967296)
def shiftF : Nat → Int → Int
  | 0, s => s
  | n + 1, s => halfStep (shiftF n s)
def crcStep (s : Int) (b : UInt8) : Int := shiftF 8 (bits .xor .u32 s b.toNat)
def notF (s : Int) : Int := bits .xor .u32 IntKind.u32.max s
def crcF (s : Nat) (l : Bs) : Nat := (notF (l.foldl crcStep (notF s))).toNat % 4294967296

theorem bits_u32 (op : BinOp) (a b : Int) : 0 ≤ bits op .u32 a b ∧ bits op .u32 a b ≤ 4294967295 := by
  have := wf_bits op .u32 a b
  simp [Lit.wf, IntKind.min, IntKind.max, IntKind.signed, IntKind.bits] at this
  omega
theorem shiftF_range (s : Int) (h0 : 0 ≤ s) (h1 : s ≤ 4294967295) : ∀ n, 0 ≤ shiftF n s ∧ shiftF n s ≤ 4294967295
  | 0 => ⟨h0, h1⟩
  | _ + 1 => bits_u32 .xor _ _
theorem crcF_lt (s : Nat) (l : Bs) : crcF s l < 256 ^ 4 := Nat.mod_lt _ (by decide)

set_option maxRecDepth 100000 in
set_option maxHeartbeats 1000000 in
theorem shift_any (s : Int) (h0 : 0 ≤ s) (h1 : s ≤ 4294967295) (w : World) : Calls Tryz.prog 122 #[.int .u32 s, .int .i64 8] w fun e w' => e = .returned (.int .u32 (shiftF 8 s)) ∧ w' = w := by
  go_enter Tryz.func122, Tryz.ntmps122
  go_wp2_with fail
  go_loopw [0, 7] (fun u0 u7 wr => ∃ (k : Nat), k ≤ 8 ∧ u7 = .int .i64 k ∧ u0 = .int .u32 (shiftF k s) ∧ wr = w) (fun _ u7 _ => 8 - (intOf u7).toNat)
  case atStart => exact ⟨0, Nat.zero_le _, rfl, rfl, rfl⟩
  case round =>
    obtain ⟨k, hk, rfl, rfl, rfl⟩ := hrel
    obtain ⟨r0, r1⟩ := shiftF_range s h0 h1 k
    by_cases hlt : k < 8
    · have hnext : Hid (shiftF (k + 1) s = bits .xor .u32 (shiftF k s / 2) (bits .and .u32 (shiftF k s) 1 * 3988292384 % 4294967296)) := hide rfl
      generalize shiftF k s = z at *
      have y1 := bits_u32 .and z 1
      go_wp2
      exact ⟨⟨k + 1, by omega, by simp, by rw [hnext.out], trivial⟩, by simp [intOf]; omega⟩
    · have e : k = 8 := by omega
      subst e
      generalize hz : shiftF 8 s = z at *
      go_wp2
      go_ret
      exact ⟨by rw [hz]; rfl, rfl⟩

theorem take_snocB {l : Bs} {k : Nat} {x : UInt8} (h : l[k]? = some x) : l.take (k + 1) = l.take k ++ [x] := by
  obtain ⟨hk, rfl⟩ := List.getElem?_eq_some_iff.1 h
  exact (List.take_append_getElem hk).symm

set_option maxRecDepth 100000 in
set_option maxHeartbeats 1000000 in
theorem sum_any (s : Nat) (_hs : s < 256 ^ 4) (t : ByteArray) (ht : t.size ≤ 9000000000000000000) (w : World) : Calls Tryz.prog 93 #[.int .u32 s, .string t] w fun e w' => e = .returned (.int .u32 (crcF s t.data.toList)) ∧ w' = w := by
  have hn : bits .xor .u32 IntKind.u32.max s = notF s := rfl
  have hsize : t.data.toList.length = t.size := Array.length_toList
  go_enter Tryz.func93, Tryz.ntmps93
  go_wp2_with fail
  go_loopw [5, 11] (fun u5 u11 wr => ∃ (k : Nat), k ≤ t.size ∧ u11 = .int .i64 k ∧ u5 = .int .u32 ((t.data.toList.take k).foldl crcStep (notF s)) ∧ 0 ≤ (t.data.toList.take k).foldl crcStep (notF s) ∧ (t.data.toList.take k).foldl crcStep (notF s) ≤ 4294967295 ∧ wr = w) (fun _ u11 _ => t.size - (intOf u11).toNat)
  case atStart => exact ⟨0, Nat.zero_le _, rfl, rfl, (bits_u32 .xor IntKind.u32.max s).1, (bits_u32 .xor IntKind.u32.max s).2, rfl⟩
  case round =>
    obtain ⟨k, hk, rfl, rfl, r0, r1, rfl⟩ := hrel
    by_cases hlt : k < t.size
    · obtain ⟨x, hx⟩ : ∃ x, t.data.toList[k]? = some x := ⟨_, List.getElem?_eq_getElem (by omega)⟩
      have hnext : Hid ((t.data.toList.take (k + 1)).foldl crcStep (notF s) = crcStep ((t.data.toList.take k).foldl crcStep (notF s)) x) := hide (by rw [take_snocB hx, List.foldl_append]; rfl)
      generalize (t.data.toList.take k).foldl crcStep (notF s) = z at *
      have hxv : ((t[k]'hlt).toNat : Int) % 4294967296 = x.toNat := by
        have h1 : t[k]'hlt = x := by
          have h2 := (List.getElem?_eq_some_iff.1 hx).2
          rw [← h2]
          rfl
        have h3 : x.toNat < 256 := x.toNat_lt
        rw [h1]
        omega
      have y1 := bits_u32 .xor z x.toNat
      have y2 : 0 ≤ crcStep z x ∧ crcStep z x ≤ 4294967295 := shiftF_range _ y1.1 y1.2 8
      have hfin : Hid (crcStep z x = shiftF 8 (bits .xor .u32 z x.toNat)) := hide rfl
      clear hx
      go_wp2_with fail
      simp only [hxv]
      refine (shift_any _ y1.1 y1.2 _).mono ?_
      rintro e w2 ⟨rfl, rfl⟩
      rw [← hfin.out]
      generalize crcStep z x = y at *
      go_wp2
      exact ⟨⟨k + 1, by omega, by simp, by rw [hnext.out], by rw [hnext.out]; exact y2.1, by rw [hnext.out]; exact y2.2, trivial⟩, by simp [intOf]; omega⟩
    · have e : k = t.size := by omega
      subst e
      have hall : t.data.toList.take t.size = t.data.toList := List.take_of_length_le (by omega)
      have hr := bits_u32 .xor IntKind.u32.max ((t.data.toList.take t.size).foldl crcStep (notF s))
      have hfin : Hid (crcF s t.data.toList = (bits .xor .u32 IntKind.u32.max ((t.data.toList.take t.size).foldl crcStep (notF s))).toNat) := hide (by
        unfold crcF
        rw [hall] at hr ⊢
        show (bits .xor .u32 IntKind.u32.max _).toNat % 4294967296 = _
        omega)
      generalize (t.data.toList.take t.size).foldl crcStep (notF s) = z at *
      go_wp2
      go_ret
      refine ⟨?_, rfl⟩
      rw [hfin.out, Int.toNat_of_nonneg hr.1]
      rfl

end Go.Proofs.YtockkceclkcgbaaGreatDoor

/- A log's bytes as plain mathematics: numbers, records with their sums, what a scan of a text finds. -/
namespace Go.Proofs.YtockkceclkcgbaaGreatDoor

def encN : Nat → Nat → Bs
  | 0, _ => []
  | w + 1, n => UInt8.ofNat (n / 256 ^ w) :: encN w n
def decN (l : Bs) : Nat := l.foldl (fun a b => a * 256 + b.toNat) 0

theorem encN_length : ∀ w n, (encN w n).length = w
  | 0, _ => rfl
  | w + 1, n => by simp [encN, encN_length w n]
theorem decN_foldl : ∀ (l : Bs) (a : Nat), l.foldl (fun a b => a * 256 + b.toNat) a = a * 256 ^ l.length + decN l
  | [], a => by simp [decN]
  | x :: r, a => by
    have h1 := decN_foldl r (a * 256 + x.toNat)
    have h2 := decN_foldl r (0 * 256 + x.toNat)
    simp only [decN, List.foldl_cons, List.length_cons] at h1 h2 ⊢
    rw [h1, h2, Nat.pow_succ, Nat.zero_mul, Nat.zero_add, Nat.add_mul, Nat.mul_assoc, Nat.mul_comm 256 (256 ^ r.length)]
    omega
theorem decN_cons (x : UInt8) (r : Bs) : decN (x :: r) = x.toNat * 256 ^ r.length + decN r := by
  have := decN_foldl r (0 * 256 + x.toNat)
  simp only [decN, List.foldl_cons] at this ⊢
  rw [this]
  simp
theorem decN_snoc (l : Bs) (x : UInt8) : decN (l ++ [x]) = decN l * 256 + x.toNat := by simp [decN]
theorem decN_lt : ∀ l : Bs, decN l < 256 ^ l.length
  | [] => by simp [decN]
  | x :: r => by
    have ih := decN_lt r
    have hx : x.toNat < 256 := x.toNat_lt
    rw [decN_cons, List.length_cons, Nat.pow_succ]
    have : x.toNat * 256 ^ r.length + 256 ^ r.length ≤ 256 ^ r.length * 256 := by
      rw [← Nat.succ_mul, Nat.mul_comm]
      exact Nat.mul_le_mul_left _ hx
    omega
theorem decN_encN : ∀ w n, decN (encN w n) = n % 256 ^ w
  | 0, n => by simp [encN, decN, Nat.mod_one]
  | w + 1, n => by
    rw [encN, decN_cons, encN_length, decN_encN w n, Nat.pow_succ, Nat.mod_mul]
    simp
    rw [Nat.mul_comm]
    omega
theorem decN_enc {w n : Nat} (h : n < 256 ^ w) : decN (encN w n) = n := by rw [decN_encN, Nat.mod_eq_of_lt h]

/-! records -/
def headB (k : UInt8) (d : Bs) : Bs := k :: encN 3 d.length
def headS (s : Nat) (k : UInt8) (d : Bs) : Nat := crcF s (headB k d)
def recS (s : Nat) (k : UInt8) (d : Bs) : Nat := crcF (headS s k d) d
def recB (s : Nat) (k : UInt8) (d : Bs) : Bs := headB k d ++ (encN 4 (headS s k d) ++ (d ++ encN 4 (recS s k d)))
theorem headB_length (k : UInt8) (d : Bs) : (headB k d).length = 4 := by simp [headB, encN_length]
theorem recB_length (s : Nat) (k : UInt8) (d : Bs) : (recB s k d).length = d.length + 12 := by simp [recB, headB_length, encN_length]; omega
theorem recS_lt (s : Nat) (k : UInt8) (d : Bs) : recS s k d < 256 ^ 4 := crcF_lt _ _

/-- a part of so many bytes, and the sum behind it: none, the text ends within; some none, the sum is wrong -/
def partOf (s n : Nat) (t : Bs) : Option (Option (Bs × Bs × Nat)) :=
  if t.length < n + 4 then none else if decN ((t.drop n).take 4) = crcF s (t.take n) then some (some (t.take n, t.drop (n + 4), crcF s (t.take n))) else some none
inductive Scan where
  | cut | wrong | got (k : UInt8) (d rest : Bs) (s : Nat)
def scanR (s : Nat) (t : Bs) : Scan := match partOf s 4 t with
  | none => .cut
  | some none => .wrong
  | some (some (h, t1, s1)) => match partOf s1 (decN (h.drop 1)) t1 with
    | none => .cut
    | some none => .wrong
    | some (some (d, t2, s2)) => .got (h.headD 0) d t2 s2

theorem partOf_got (s : Nat) (p rest : Bs) : partOf s p.length (p ++ (encN 4 (crcF s p) ++ rest)) = some (some (p, rest, crcF s p)) := by
  have h0 : ¬ (p ++ (encN 4 (crcF s p) ++ rest)).length < p.length + 4 := by simp [encN_length]
  have h1 : (p ++ (encN 4 (crcF s p) ++ rest)).take p.length = p := by simp
  have h2 : ((p ++ (encN 4 (crcF s p) ++ rest)).drop p.length).take 4 = encN 4 (crcF s p) := by
    rw [List.drop_left, List.take_append_of_le_length (by simp [encN_length])]
    exact List.take_of_length_le (by simp [encN_length])
  have h3 : (p ++ (encN 4 (crcF s p) ++ rest)).drop (p.length + 4) = rest := by
    rw [← List.append_assoc, List.drop_left' (by simp [encN_length])]
  unfold partOf
  rw [if_neg h0, h1, h2, h3, decN_enc (crcF_lt _ _), if_pos rfl]
theorem partOf_cut (s n : Nat) (t : Bs) (h : t.length < n + 4) : partOf s n t = none := by simp [partOf, h]

theorem scan_rec (s : Nat) (k : UInt8) (d rest : Bs) (hd : d.length < 256 ^ 3) : scanR s (recB s k d ++ rest) = .got k d rest (recS s k d) := by
  have e1 : recB s k d ++ rest = headB k d ++ (encN 4 (crcF s (headB k d)) ++ (d ++ (encN 4 (recS s k d) ++ rest))) := by simp [recB, headS]
  have p1 := partOf_got s (headB k d) (d ++ (encN 4 (recS s k d) ++ rest))
  rw [headB_length] at p1
  have p2 := partOf_got (crcF s (headB k d)) d rest
  have e2 : decN ((headB k d).drop 1) = d.length := by
    rw [show (headB k d).drop 1 = encN 3 d.length from rfl, decN_enc hd]
  unfold scanR
  rw [e1, p1]
  simp only [e2]
  rw [show recS s k d = crcF (crcF s (headB k d)) d from rfl, p2]
  rfl
theorem scan_cut (s : Nat) (k : UInt8) (d p q : Bs) (hd : d.length < 256 ^ 3) (hp : p ++ q = recB s k d) (hq : q ≠ []) : scanR s p = .cut := by
  have hl : p.length + q.length = d.length + 12 := by rw [← recB_length s k d, ← hp, List.length_append]
  have hq0 : 0 < q.length := by cases q with
    | nil => exact absurd rfl hq
    | cons _ _ => simp
  by_cases h8 : p.length < 8
  · unfold scanR
    rw [partOf_cut s 4 p h8]
  · have e1 : p = headB k d ++ (encN 4 (crcF s (headB k d)) ++ p.drop 8) := by
      have h1 : (p ++ q).take 8 = headB k d ++ encN 4 (crcF s (headB k d)) := by
        rw [hp, recB, ← List.append_assoc]
        rw [List.take_append_of_le_length (by simp [headB_length, encN_length])]
        exact List.take_of_length_le (by simp [headB_length, encN_length])
      rw [List.take_append_of_le_length (by omega)] at h1
      rw [← List.append_assoc, ← h1, List.take_append_drop]
    have p1 := partOf_got s (headB k d) (p.drop 8)
    rw [headB_length, ← e1] at p1
    have e2 : decN ((headB k d).drop 1) = d.length := by
      rw [show (headB k d).drop 1 = encN 3 d.length from rfl, decN_enc hd]
    unfold scanR
    rw [p1]
    simp only [e2]
    rw [partOf_cut _ _ _ (by simp; omega)]
theorem partOf_less {s n : Nat} {t d r : Bs} {s2 : Nat} (h : partOf s n t = some (some (d, r, s2))) : r.length + 4 ≤ t.length := by
  unfold partOf at h
  split at h
  · cases h
  · split at h
    · simp at h
      rw [← h.2.1, List.length_drop]
      omega
    · simp at h
theorem scan_less {s : Nat} {t d r : Bs} {k : UInt8} {s2 : Nat} (h : scanR s t = .got k d r s2) : r.length < t.length := by
  unfold scanR at h
  split at h
  · cases h
  · cases h
  · rename_i e1
    have l1 := partOf_less e1
    split at h
    · cases h
    · cases h
    · rename_i e2
      have l2 := partOf_less e2
      cases h
      omega

end Go.Proofs.YtockkceclkcgbaaGreatDoor

/- What a log tells, as plain mathematics: the queue without its times and leases; what each record makes of it; what a text makes. -/
namespace Go.Proofs.YtockkceclkcgbaaGreatDoor
open Go.RowKit

/-- a group without its leases -/
structure CG where
  start : Int
  done : RL
  dead : List Dl
  tr : Int → Int
def PG.core (p : PG) : CG := ⟨p.start, p.done, p.dead, p.tr⟩
/-- a queue without its time and leases -/
structure Core where
  floor : Int
  bodies : List ByteArray
  gs : List (ByteArray × CG)

def clr {α : Type} (z : α) (f : Int → α) (lo hi : Int) : Int → α := fun n => if lo ≤ n ∧ n ≤ hi then z else f n
def CG.finish (g : CG) (lo hi : Int) : CG := { g with done := addTo g.done lo hi, tr := clr 0 g.tr lo hi }
def CG.new (s : Int) : CG := ⟨s, [], [], fun _ => 0⟩
def CG.serve (d : Int) (s : ByteArray) (g : CG) (off : Int) : CG :=
  bif decide (d ≤ g.tr off) then { g.finish off off with dead := g.dead ++ [⟨off, g.tr off, s⟩] } else { g with tr := upd g.tr off (wrap64 (g.tr off + 1)) }
def CG.setTries (d : Int) (g : CG) (off : Int) (t : Nat) : Option CG :=
  if t = 255 then some (g.finish off off) else if d < t then none else if t = 0 then some g else some { g with tr := upd g.tr off t }

namespace Core
def zero : Core := ⟨0, [], []⟩
def stop (q : Core) : Int := q.floor + q.bodies.length
def names (q : Core) : List ByteArray := q.gs.map (·.1)
def first (q : Core) (g : CG) : Int := max q.floor g.start
def has (q : Core) (g : CG) (off : Int) : Bool := btw off (q.first g) (q.stop - 1)
def body (q : Core) (off : Int) : ByteArray := q.bodies.getD (off - q.floor).toNat ⟨#[]⟩
def find (q : Core) (s : ByteArray) : Option CG := (q.gs.find? (fun p => decide (p.1 = s))).map (·.2)
def put (q : Core) (s : ByteArray) (g : CG) : Core := { q with gs := q.gs.map (fun p => if p.1 = s then (s, g) else p) }
def keepE (c : Conf) (q : Core) (s : ByteArray) : Int := bif decide (64 < s.size) then 3 else bif decide (400 ≤ q.stop) then 5 else bif decide (c.k ≤ q.bodies.length) then 4 else 0
def keep (q : Core) (s : ByteArray) : Core := { q with bodies := q.bodies ++ [s] }
def joinE (q : Core) (s : ByteArray) (fr least : Int) : Int :=
  bif btw s.size 1 16 then bif memB s q.names then 7 else bif decide (6 ≤ q.gs.length) then 8 else bif btw fr least q.stop then 0 else 9 else 6
def join (q : Core) (s : ByteArray) (fr : Int) : Core := { q with gs := q.gs ++ [(s, CG.new fr)] }
def least (q : Core) : Int := q.gs.foldl (fun a p => min a (gapI p.2.done p.2.start)) q.stop
def goTo (c : Conf) (q : Core) : Int := q.least - q.least % c.s
def stays (c : Conf) (q : Core) : Bool := decide (q.gs.length = 0) || decide (q.goTo c ≤ q.floor)
def gone (c : Conf) (q : Core) : Int := bif q.stays c then 0 else q.goTo c - q.floor
def release (c : Conf) (q : Core) : Core := bif q.stays c then q else { q with floor := q.goTo c, bodies := q.bodies.drop (q.goTo c - q.floor).toNat }
def serveAll (c : Conf) (q : Core) : CG → List Int → Option CG
  | g, [] => some g
  | g, o :: r => bif q.has g o && !hasB g.done o then serveAll c q (g.serve c.d (q.body o) o) r else none
end Core

/-! a text that is read from its beginning on -/
structure Rd where
  rest : Bs
  short : Bool
namespace Rd
def take (r : Rd) (n : Nat) : Bs × Rd := if r.short = true ∨ r.rest.length < n then ([], ⟨r.rest, true⟩) else (r.rest.take n, ⟨r.rest.drop n, r.short⟩)
def num (r : Rd) (n : Nat) : Nat × Rd := (decN (r.take n).1, (r.take n).2)
def text (r : Rd) : Bs × Rd := (r.num 1).2.take (r.num 1).1
def ended (r : Rd) : Bool := decide (r.rest = []) && !r.short
end Rd
/-- numbers of two bytes to the end of a text; whether the last one was cut -/
def pairsOf : Bs → List Int × Bs × Bool
  | [] => ([], [], false)
  | [x] => ([0], [x], true)
  | a :: b :: r => (((decN [a, b] : Nat) : Int) :: (pairsOf r).1, (pairsOf r).2)
def Rd.nums (r : Rd) : List Int × Rd := if r.short = true then ([], r) else ((pairsOf r.rest).1, ⟨(pairsOf r.rest).2.1, (pairsOf r.rest).2.2⟩)

/-! what Compact wrote -/
def loadBodies (c : Conf) : Nat → Core → Rd → Option (Core × Rd)
  | 0, q, r => some (q, r)
  | n + 1, q, r => bif decide (q.keepE c (mkB r.text.1) = 0) then loadBodies c n (q.keep (mkB r.text.1)) r.text.2 else none
def loadTries (d : Int) : Nat → Int → CG → Rd → Option (CG × Rd)
  | 0, _, g, r => some (g, r)
  | n + 1, off, g, r => match g.setTries d off (r.num 1).1 with
    | none => none
    | some g' => loadTries d n (off + 1) g' (r.num 1).2
def deadOk (q : Core) (g : CG) (off : Int) (s : ByteArray) : Bool :=
  hasB g.done off && !(g.dead.any (fun x => decide (x.off = off))) && decide (s.size ≤ 64) && !(decide (q.floor ≤ off) && !decide (s = q.body off))
def loadDeads (c : Conf) (q : Core) : Nat → CG → Rd → Option (CG × Rd)
  | 0, g, r => some (g, r)
  | n + 1, g, r => bif deadOk q g (r.num 2).1 (mkB (r.num 2).2.text.1) then loadDeads c q n { g with dead := g.dead ++ [⟨(r.num 2).1, c.d, mkB (r.num 2).2.text.1⟩] } (r.num 2).2.text.2 else none
def startG (q : Core) (st : Int) : CG := bif decide (st < q.floor) then (CG.new st).finish st (q.floor - 1) else CG.new st
def loadGroup (c : Conf) (q : Core) (r : Rd) : Option (Core × Rd) :=
  let s := mkB r.text.1
  let st : Int := (r.text.2.num 2).1
  let r1 := (r.text.2.num 2).2
  bif decide (q.joinE s st 0 = 0) then
    match loadTries c.d (q.stop - q.first (startG q st)).toNat (q.first (startG q st)) (startG q st) r1 with
    | none => none
    | some (g, r2) => match loadDeads c q (r2.num 2).1 g (r2.num 2).2 with
      | none => none
      | some (g', r3) => some ({ q with gs := q.gs ++ [(s, g')] }, r3)
  else none
def loadGroups (c : Conf) : Nat → Core → Rd → Option (Core × Rd)
  | 0, q, r => some (q, r)
  | n + 1, q, r => match loadGroup c q r with
    | none => none
    | some (q', r') => loadGroups c n q' r'
def loadC (c : Conf) (d : Bs) : Option Core :=
  let r : Rd := ⟨d, false⟩
  let fl : Int := (r.num 2).1
  bif decide (400 < fl) || !decide (fl % c.s = 0) then none else
  match loadBodies c ((r.num 2).2.num 2).1 ⟨fl, [], []⟩ ((r.num 2).2.num 2).2 with
  | none => none
  | some (q, r1) => match loadGroups c (r1.num 2).1 q (r1.num 2).2 with
    | none => none
    | some (q', r2) => bif r2.ended then some q' else none

/-! what a record makes -/
def replayN (c : Conf) (q : Core) (k : UInt8) (s : ByteArray) (offs : List Int) : Option Core :=
  if k = 114 then (match q.find s with
    | none => none
    | some g => if offs = [] then none else (q.serveAll c g offs).map (q.put s))
  else match offs with
    | [o] => if k = 103 then (bif decide (q.joinE s o q.floor = 0) then some (q.join s o) else none)
      else if k = 97 then (match q.find s with
        | none => none
        | some g => bif decide (g.tr o = 0) then none else some (q.put s (g.finish o o)))
      else none
    | _ => none
def replayC (c : Conf) (q : Core) (new : Bool) (k : UInt8) (d : Bs) : Option Core :=
  if k = 101 then (bif decide (q.keepE c (mkB d) = 0) then some (q.keep (mkB d)) else none)
  else if k = 102 then (bif decide (d = []) && decide (0 < q.gone c) then some (q.release c) else none)
  else if k = 99 then (bif new then loadC c d else none)
  else let r := (Rd.mk d false).text
    bif r.2.nums.2.ended then replayN c q k (mkB r.1) r.2.nums.1 else none
def mayCut (k : UInt8) : Bool := decide (k = 101 ∨ k = 103 ∨ k = 114 ∨ k = 97 ∨ k = 102)
/-- what a text makes of a queue, its log so far lg, the sum of that s -/
def foldT (c : Conf) (q : Core) (s : Nat) (lg t : Bs) : Option (Core × Nat × Bs) :=
  if t = [] then some (q, s, lg) else
  match _h : scanR s t with
  | .cut => bif mayCut (t.headD 0) then some (q, s, lg) else none
  | .wrong => none
  | .got k d r s' => match replayC c q (decide (lg = [])) k d with
    | none => none
    | some q' => foldT c q' s' (lg ++ recB s k d) r
termination_by t.length
decreasing_by exact scan_less (by assumption)
def seedS (c : Conf) : Nat := crcF 0 (encN 2 c.l.toNat ++ (encN 2 c.d.toNat ++ (encN 2 c.s.toNat ++ encN 2 c.k.toNat)))
def openT (c : Conf) (t : Bs) : Option (Core × Nat × Bs) := foldT c .zero (seedS c) [] t

theorem foldT_nil (c : Conf) (q : Core) (s : Nat) (lg : Bs) : foldT c q s lg [] = some (q, s, lg) := by
  rw [foldT]
  simp
theorem foldT_cut {c : Conf} {q : Core} {s : Nat} {lg t : Bs} (h : scanR s t = .cut) (ht : t ≠ []) : foldT c q s lg t = bif mayCut (t.headD 0) then some (q, s, lg) else none := by
  rw [foldT, if_neg ht]
  split <;> simp_all
theorem foldT_wrong {c : Conf} {q : Core} {s : Nat} {lg t : Bs} (h : scanR s t = .wrong) (ht : t ≠ []) : foldT c q s lg t = none := by
  rw [foldT, if_neg ht]
  split <;> simp_all
theorem foldT_got {c : Conf} {q : Core} {s : Nat} {lg t : Bs} {k : UInt8} {d r : Bs} {s' : Nat} (h : scanR s t = .got k d r s') (ht : t ≠ []) :
    foldT c q s lg t = match replayC c q (decide (lg = [])) k d with | none => none | some q' => foldT c q' s' (lg ++ recB s k d) r := by
  rw [foldT, if_neg ht]
  split
  · rename_i e; rw [h] at e; cases e
  · rename_i e; rw [h] at e; cases e
  · rename_i e
    rw [h] at e
    cases e
    rfl
theorem recB_ne (s : Nat) (k : UInt8) (d r : Bs) : recB s k d ++ r ≠ [] := by simp [recB, headB]

end Go.Proofs.YtockkceclkcgbaaGreatDoor

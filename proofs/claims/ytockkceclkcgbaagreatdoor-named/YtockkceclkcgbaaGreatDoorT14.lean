/- A log's bytes as plain mathematics: numbers, records with their sums, what a scan of a text finds. -/
import Derived.Test.YtockkceclkcgbaaGreatDoorT13
namespace Go.Proofs.YtockkceclkcgbaaGreatDoor

def encN : Nat → Nat → Bs
  | 0, _ => []
  | w + 1, n => UInt8.ofNat (n / 256 ^ w) :: encN w n
def decN (l : Bs) : Nat := l.foldl (fun a b => a * 256 + b.toNat) 0

theorem encN_length : ∀ w n, (encN w n).length = w
  | 0, _ => rfl
  | w + 1, n => by simp [encN, encN_length w n]
theorem decN_foldl : ∀ (l : Bs) (a : Nat), l.foldl (fun a b => a * 256 + b.toNat) a = a * 256 ^ l.length + decN l
  | [], a => by simp [decN]
  | x :: r, a => by
    have h1 := decN_foldl r (a * 256 + x.toNat)
    have h2 := decN_foldl r (0 * 256 + x.toNat)
    simp only [decN, List.foldl_cons, List.length_cons] at h1 h2 ⊢
    rw [h1, h2, Nat.pow_succ, Nat.zero_mul, Nat.zero_add, Nat.add_mul, Nat.mul_assoc, Nat.mul_comm 256 (256 ^ r.length)]
    omega
theorem decN_cons (x : UInt8) (r : Bs) : decN (x :: r) = x.toNat * 256 ^ r.length + decN r := by
  have := decN_foldl r (0 * 256 + x.toNat)
  simp only [decN, List.foldl_cons] at this ⊢
  rw [this]
  simp
theorem decN_snoc (l : Bs) (x : UInt8) : decN (l ++ [x]) = decN l * 256 + x.toNat := by simp [decN]
theorem decN_lt : ∀ l : Bs, decN l < 256 ^ l.length
  | [] => by simp [decN]
  | x :: r => by
    have ih := decN_lt r
    have hx : x.toNat < 256 := x.toNat_lt
    rw [decN_cons, List.length_cons, Nat.pow_succ]
    have : x.toNat * 256 ^ r.length + 256 ^ r.length ≤ 256 ^ r.length * 256 := by
      rw [← Nat.succ_mul, Nat.mul_comm]
      exact Nat.mul_le_mul_left _ hx
    omega
theorem decN_encN : ∀ w n, decN (encN w n) = n % 256 ^ w
  | 0, n => by simp [encN, decN, Nat.mod_one]
  | w + 1, n => by
    rw [encN, decN_cons, encN_length, decN_encN w n, Nat.pow_succ, Nat.mod_mul]
    simp
    rw [Nat.mul_comm]
    omega
theorem decN_enc {w n : Nat} (h : n < 256 ^ w) : decN (encN w n) = n := by rw [decN_encN, Nat.mod_eq_of_lt h]

/-! records -/
def headB (k : UInt8) (d : Bs) : Bs := k :: encN 3 d.length
def headS (s : Nat) (k : UInt8) (d : Bs) : Nat := crcF s (headB k d)
def recS (s : Nat) (k : UInt8) (d : Bs) : Nat := crcF (headS s k d) d
def recB (s : Nat) (k : UInt8) (d : Bs) : Bs := headB k d ++ (encN 4 (headS s k d) ++ (d ++ encN 4 (recS s k d)))
theorem headB_length (k : UInt8) (d : Bs) : (headB k d).length = 4 := by simp [headB, encN_length]
theorem recB_length (s : Nat) (k : UInt8) (d : Bs) : (recB s k d).length = d.length + 12 := by simp [recB, headB_length, encN_length]; omega
theorem recS_lt (s : Nat) (k : UInt8) (d : Bs) : recS s k d < 256 ^ 4 := crcF_lt _ _

/-- a part of so many bytes, and the sum behind it: none, the text ends within; some none, the sum is wrong -/
def partOf (s n : Nat) (t : Bs) : Option (Option (Bs × Bs × Nat)) :=
  if t.length < n + 4 then none else if decN ((t.drop n).take 4) = crcF s (t.take n) then some (some (t.take n, t.drop (n + 4), crcF s (t.take n))) else some none
inductive Scan where
  | cut | wrong | got (k : UInt8) (d rest : Bs) (s : Nat)
def scanR (s : Nat) (t : Bs) : Scan := match partOf s 4 t with
  | none => .cut
  | some none => .wrong
  | some (some (h, t1, s1)) => match partOf s1 (decN (h.drop 1)) t1 with
    | none => .cut
    | some none => .wrong
    | some (some (d, t2, s2)) => .got (h.headD 0) d t2 s2

theorem partOf_got (s : Nat) (p rest : Bs) : partOf s p.length (p ++ (encN 4 (crcF s p) ++ rest)) = some (some (p, rest, crcF s p)) := by
  have h0 : ¬ (p ++ (encN 4 (crcF s p) ++ rest)).length < p.length + 4 := by simp [encN_length]
  have h1 : (p ++ (encN 4 (crcF s p) ++ rest)).take p.length = p := by simp
  have h2 : ((p ++ (encN 4 (crcF s p) ++ rest)).drop p.length).take 4 = encN 4 (crcF s p) := by
    rw [List.drop_left, List.take_append_of_le_length (by simp [encN_length])]
    exact List.take_of_length_le (by simp [encN_length])
  have h3 : (p ++ (encN 4 (crcF s p) ++ rest)).drop (p.length + 4) = rest := by
    rw [← List.append_assoc, List.drop_left' (by simp [encN_length])]
  unfold partOf
  rw [if_neg h0, h1, h2, h3, decN_enc (crcF_lt _ _), if_pos rfl]
theorem partOf_cut (s n : Nat) (t : Bs) (h : t.length < n + 4) : partOf s n t = none := by simp [partOf, h]

theorem scan_rec (s : Nat) (k : UInt8) (d rest : Bs) (hd : d.length < 256 ^ 3) : scanR s (recB s k d ++ rest) = .got k d rest (recS s k d) := by
  have e1 : recB s k d ++ rest = headB k d ++ (encN 4 (crcF s (headB k d)) ++ (d ++ (encN 4 (recS s k d) ++ rest))) := by simp [recB, headS]
  have p1 := partOf_got s (headB k d) (d ++ (encN 4 (recS s k d) ++ rest))
  rw [headB_length] at p1
  have p2 := partOf_got (crcF s (headB k d)) d rest
  have e2 : decN ((headB k d).drop 1) = d.length := by
    rw [show (headB k d).drop 1 = encN 3 d.length from rfl, decN_enc hd]
  unfold scanR
  rw [e1, p1]
  simp only [e2]
  rw [show recS s k d = crcF (crcF s (headB k d)) d from rfl, p2]
  rfl
theorem scan_cut (s : Nat) (k : UInt8) (d p q : Bs) (hd : d.length < 256 ^ 3) (hp : p ++ q = recB s k d) (hq : q ≠ []) : scanR s p = .cut := by
  have hl : p.length + q.length = d.length + 12 := by rw [← recB_length s k d, ← hp, List.length_append]
  have hq0 : 0 < q.length := by cases q with
    | nil => exact absurd rfl hq
    | cons _ _ => simp
  by_cases h8 : p.length < 8
  · unfold scanR
    rw [partOf_cut s 4 p h8]
  · have e1 : p = headB k d ++ (encN 4 (crcF s (headB k d)) ++ p.drop 8) := by
      have h1 : (p ++ q).take 8 = headB k d ++ encN 4 (crcF s (headB k d)) := by
        rw [hp, recB, ← List.append_assoc]
        rw [List.take_append_of_le_length (by simp [headB_length, encN_length])]
        exact List.take_of_length_le (by simp [headB_length, encN_length])
      rw [List.take_append_of_le_length (by omega)] at h1
      rw [← List.append_assoc, ← h1, List.take_append_drop]
    have p1 := partOf_got s (headB k d) (p.drop 8)
    rw [headB_length, ← e1] at p1
    have e2 : decN ((headB k d).drop 1) = d.length := by
      rw [show (headB k d).drop 1 = encN 3 d.length from rfl, decN_enc hd]
    unfold scanR
    rw [p1]
    simp only [e2]
    rw [partOf_cut _ _ _ (by simp; omega)]
theorem partOf_less {s n : Nat} {t d r : Bs} {s2 : Nat} (h : partOf s n t = some (some (d, r, s2))) : r.length + 4 ≤ t.length := by
  unfold partOf at h
  split at h
  · cases h
  · split at h
    · simp at h
      rw [← h.2.1, List.length_drop]
      omega
    · simp at h
theorem scan_less {s : Nat} {t d r : Bs} {k : UInt8} {s2 : Nat} (h : scanR s t = .got k d r s2) : r.length < t.length := by
  unfold scanR at h
  split at h
  · cases h
  · cases h
  · rename_i e1
    have l1 := partOf_less e1
    split at h
    · cases h
    · cases h
    · rename_i e2
      have l2 := partOf_less e2
      cases h
      omega

end Go.Proofs.YtockkceclkcgbaaGreatDoor

/- What a log tells, as plain mathematics: the queue without its times and leases; what each record makes of it; what a text makes. -/
namespace Go.Proofs.YtockkceclkcgbaaGreatDoor
open Go.RowKit

/-- a group without its leases -/
structure CG where
  start : Int
  done : RL
  dead : List Dl
  tr : Int → Int
def PG.core (p : PG) : CG := ⟨p.start, p.done, p.dead, p.tr⟩
/-- a queue without its time and leases -/
structure Core where
  floor : Int
  bodies : List ByteArray
  gs : List (ByteArray × CG)

def clr {α : Type} (z : α) (f : Int → α) (lo hi : Int) : Int → α := fun n => if lo ≤ n ∧ n ≤ hi then z else f n
def CG.finish (g : CG) (lo hi : Int) : CG := { g with done := addTo g.done lo hi, tr := clr 0 g.tr lo hi }
def CG.new (s : Int) : CG := ⟨s, [], [], fun _ => 0⟩
def CG.serve (d : Int) (s : ByteArray) (g : CG) (off : Int) : CG :=
  bif decide (d ≤ g.tr off) then { g.finish off off with dead := g.dead ++ [⟨off, g.tr off, s⟩] } else { g with tr := upd g.tr off (wrap64 (g.tr off + 1)) }
def CG.setTries (d : Int) (g : CG) (off : Int) (t : Nat) : Option CG :=
  if t = 255 then some (g.finish off off) else if d < t then none else if t = 0 then some g else some { g with tr := upd g.tr off t }

namespace Core
def zero : Core := ⟨0, [], []⟩
def stop (q : Core) : Int := q.floor + q.bodies.length
def names (q : Core) : List ByteArray := q.gs.map (·.1)
def first (q : Core) (g : CG) : Int := max q.floor g.start
def has (q : Core) (g : CG) (off : Int) : Bool := btw off (q.first g) (q.stop - 1)
def body (q : Core) (off : Int) : ByteArray := q.bodies.getD (off - q.floor).toNat ⟨#[]⟩
def find (q : Core) (s : ByteArray) : Option CG := (q.gs.find? (fun p => decide (p.1 = s))).map (·.2)
def put (q : Core) (s : ByteArray) (g : CG) : Core := { q with gs := q.gs.map (fun p => if p.1 = s then (s, g) else p) }
def keepE (c : Conf) (q : Core) (s : ByteArray) : Int := bif decide (64 < s.size) then 3 else bif decide (400 ≤ q.stop) then 5 else bif decide (c.k ≤ q.bodies.length) then 4 else 0
def keep (q : Core) (s : ByteArray) : Core := { q with bodies := q.bodies ++ [s] }
def joinE (q : Core) (s : ByteArray) (fr least : Int) : Int :=
  bif btw s.size 1 16 then bif memB s q.names then 7 else bif decide (6 ≤ q.gs.length) then 8 else bif btw fr least q.stop then 0 else 9 else 6
def join (q : Core) (s : ByteArray) (fr : Int) : Core := { q with gs := q.gs ++ [(s, CG.new fr)] }
def least (q : Core) : Int := q.gs.foldl (fun a p => min a (gapI p.2.done p.2.start)) q.stop
def goTo (c : Conf) (q : Core) : Int := q.least - q.least % c.s
def stays (c : Conf) (q : Core) : Bool := decide (q.gs.length = 0) || decide (q.goTo c ≤ q.floor)
def gone (c : Conf) (q : Core) : Int := bif q.stays c then 0 else q.goTo c - q.floor
def release (c : Conf) (q : Core) : Core := bif q.stays c then q else { q with floor := q.goTo c, bodies := q.bodies.drop (q.goTo c - q.floor).toNat }
def serveAll (c : Conf) (q : Core) : CG → List Int → Option CG
  | g, [] => some g
  | g, o :: r => bif q.has g o && !hasB g.done o then serveAll c q (g.serve c.d (q.body o) o) r else none
end Core

/-! a text that is read from its beginning on -/
structure Rd where
  rest : Bs
  short : Bool
namespace Rd
def take (r : Rd) (n : Nat) : Bs × Rd := if r.short = true ∨ r.rest.length < n then ([], ⟨r.rest, true⟩) else (r.rest.take n, ⟨r.rest.drop n, r.short⟩)
def num (r : Rd) (n : Nat) : Nat × Rd := (decN (r.take n).1, (r.take n).2)
def text (r : Rd) : Bs × Rd := (r.num 1).2.take (r.num 1).1
def ended (r : Rd) : Bool := decide (r.rest = []) && !r.short
end Rd
/-- numbers of two bytes to the end of a text; whether the last one was cut -/
def pairsOf : Bs → List Int × Bs × Bool
  | [] => ([], [], false)
  | [x] => ([0], [x], true)
  | a :: b :: r => (((decN [a, b] : Nat) : Int) :: (pairsOf r).1, (pairsOf r).2)
def Rd.nums (r : Rd) : List Int × Rd := if r.short = true then ([], r) else ((pairsOf r.rest).1, ⟨(pairsOf r.rest).2.1, (pairsOf r.rest).2.2⟩)

/-! what Compact wrote -/
def loadBodies (c : Conf) : Nat → Core → Rd → Option (Core × Rd)
  | 0, q, r => some (q, r)
  | n + 1, q, r => bif decide (q.keepE c (mkB r.text.1) = 0) then loadBodies c n (q.keep (mkB r.text.1)) r.text.2 else none
def loadTries (d : Int) : Nat → Int → CG → Rd → Option (CG × Rd)
  | 0, _, g, r => some (g, r)
  | n + 1, off, g, r => match g.setTries d off (r.num 1).1 with
    | none => none
    | some g' => loadTries d n (off + 1) g' (r.num 1).2
def deadOk (q : Core) (g : CG) (off : Int) (s : ByteArray) : Bool :=
  hasB g.done off && !(g.dead.any (fun x => decide (x.off = off))) && decide (s.size ≤ 64) && !(decide (q.floor ≤ off) && !decide (s = q.body off))
def loadDeads (c : Conf) (q : Core) : Nat → CG → Rd → Option (CG × Rd)
  | 0, g, r => some (g, r)
  | n + 1, g, r => bif deadOk q g (r.num 2).1 (mkB (r.num 2).2.text.1) then loadDeads c q n { g with dead := g.dead ++ [⟨(r.num 2).1, c.d, mkB (r.num 2).2.text.1⟩] } (r.num 2).2.text.2 else none
def startG (q : Core) (st : Int) : CG := bif decide (st < q.floor) then (CG.new st).finish st (q.floor - 1) else CG.new st
def loadGroup (c : Conf) (q : Core) (r : Rd) : Option (Core × Rd) :=
  let s := mkB r.text.1
  let st : Int := (r.text.2.num 2).1
  let r1 := (r.text.2.num 2).2
  bif decide (q.joinE s st 0 = 0) then
    match loadTries c.d (q.stop - q.first (startG q st)).toNat (q.first (startG q st)) (startG q st) r1 with
    | none => none
    | some (g, r2) => match loadDeads c q (r2.num 2).1 g (r2.num 2).2 with
      | none => none
      | some (g', r3) => some ({ q with gs := q.gs ++ [(s, g')] }, r3)
  else none
def loadGroups (c : Conf) : Nat → Core → Rd → Option (Core × Rd)
  | 0, q, r => some (q, r)
  | n + 1, q, r => match loadGroup c q r with
    | none => none
    | some (q', r') => loadGroups c n q' r'
def loadC (c : Conf) (d : Bs) : Option Core :=
  let r : Rd := ⟨d, false⟩
  let fl : Int := (r.num 2).1
  bif decide (400 < fl) || !decide (fl % c.s = 0) then none else
  match loadBodies c ((r.num 2).2.num 2).1 ⟨fl, [], []⟩ ((r.num 2).2.num 2).2 with
  | none => none
  | some (q, r1) => match loadGroups c (r1.num 2).1 q (r1.num 2).2 with
    | none => none
    | some (q', r2) => bif r2.ended then some q' else none

/-! what a record makes -/
def replayN (c : Conf) (q : Core) (k : UInt8) (s : ByteArray) (offs : List Int) : Option Core :=
  if k = 114 then (match q.find s with
    | none => none
    | some g => if offs = [] then none else (q.serveAll c g offs).map (q.put s))
  else match offs with
    | [o] => if k = 103 then (bif decide (q.joinE s o q.floor = 0) then some (q.join s o) else none)
      else if k = 97 then (match q.find s with
        | none => none
        | some g => bif decide (g.tr o = 0) then none else some (q.put s (g.finish o o)))
      else none
    | _ => none
def replayC (c : Conf) (q : Core) (new : Bool) (k : UInt8) (d : Bs) : Option Core :=
  if k = 101 then (bif decide (q.keepE c (mkB d) = 0) then some (q.keep (mkB d)) else none)
  else if k = 102 then (bif decide (d = []) && decide (0 < q.gone c) then some (q.release c) else none)
  else if k = 99 then (bif new then loadC c d else none)
  else let r := (Rd.mk d false).text
    bif r.2.nums.2.ended then replayN c q k (mkB r.1) r.2.nums.1 else none
def mayCut (k : UInt8) : Bool := decide (k = 101 ∨ k = 103 ∨ k = 114 ∨ k = 97 ∨ k = 102)
/-- what a text makes of a queue, its log so far lg, the sum of that s -/
def foldT (c : Conf) (q : Core) (s : Nat) (lg t : Bs) : Option (Core × Nat × Bs) :=
  if t = [] then some (q, s, lg) else
  match _h : scanR s t with
  | .cut => bif mayCut (t.headD 0) then some (q, s, lg) else none
  | .wrong => none
  | .got k d r s' => match replayC c q (decide (lg = [])) k d with
    | none => none
    | some q' => foldT c q' s' (lg ++ recB s k d) r
termination_by t.length
decreasing_by exact scan_less (by assumption)
def seedS (c : Conf) : Nat := crcF 0 (encN 2 c.l.toNat ++ (encN 2 c.d.toNat ++ (encN 2 c.s.toNat ++ encN 2 c.k.toNat)))
def openT (c : Conf) (t : Bs) : Option (Core × Nat × Bs) := foldT c .zero (seedS c) [] t

theorem foldT_nil (c : Conf) (q : Core) (s : Nat) (lg : Bs) : foldT c q s lg [] = some (q, s, lg) := by
  rw [foldT]
  simp
theorem foldT_cut {c : Conf} {q : Core} {s : Nat} {lg t : Bs} (h : scanR s t = .cut) (ht : t ≠ []) : foldT c q s lg t = bif mayCut (t.headD 0) then some (q, s, lg) else none := by
  rw [foldT, if_neg ht]
  split <;> simp_all
theorem foldT_wrong {c : Conf} {q : Core} {s : Nat} {lg t : Bs} (h : scanR s t = .wrong) (ht : t ≠ []) : foldT c q s lg t = none := by
  rw [foldT, if_neg ht]
  split <;> simp_all
theorem foldT_got {c : Conf} {q : Core} {s : Nat} {lg t : Bs} {k : UInt8} {d r : Bs} {s' : Nat} (h : scanR s t = .got k d r s') (ht : t ≠ []) :
    foldT c q s lg t = match replayC c q (decide (lg = [])) k d with | none => none | some q' => foldT c q' s' (lg ++ recB s k d) r := by
  rw [foldT, if_neg ht]
  split
  · rename_i e; rw [h] at e; cases e
  · rename_i e; rw [h] at e; cases e
  · rename_i e
    rw [h] at e
    cases e
    rfl
theorem recB_ne (s : Nat) (k : UInt8) (d r : Bs) : recB s k d ++ r ≠ [] := by simp [recB, headB]

end Go.Proofs.YtockkceclkcgbaaGreatDoor

/- A log that is made longer by a record: what it tells, whole and cut; queues that differ in the order of their groups alone. -/
namespace Go.Proofs.YtockkceclkcgbaaGreatDoor
open Go.RowKit

/-- The log lg tells the queue q; s is its sum. -/
def Told (c : Conf) (lg : Bs) (q : Core) (s : Nat) : Prop := ∀ rest, openT c (lg ++ rest) = foldT c q s lg rest
theorem told_zero (c : Conf) : Told c [] .zero (seedS c) := fun _ => rfl
theorem Told.whole {c : Conf} {lg : Bs} {q : Core} {s : Nat} (h : Told c lg q s) : openT c lg = some (q, s, lg) := by
  have := h []
  rw [List.append_nil, foldT_nil] at this
  exact this
theorem Told.one {c : Conf} {lg : Bs} {q q' : Core} {s s' : Nat} (h : Told c lg q s) (h' : Told c lg q' s') : q = q' ∧ s = s' := by
  have := h.whole.symm.trans h'.whole
  simp at this
  exact this
theorem Told.add {c : Conf} {lg : Bs} {q q' : Core} {s : Nat} (h : Told c lg q s) {k : UInt8} {d : Bs} (hd : d.length < 256 ^ 3) (hr : replayC c q (decide (lg = [])) k d = some q') : Told c (lg ++ recB s k d) q' (recS s k d) := fun rest => by
  rw [List.append_assoc, h, foldT_got (scan_rec s k d rest hd) (recB_ne s k d rest), hr]
theorem Told.cut {c : Conf} {lg : Bs} {q : Core} {s : Nat} (h : Told c lg q s) {k : UInt8} {d p r : Bs} (hd : d.length < 256 ^ 3) (hk : mayCut k = true) (hp : p ++ r = recB s k d) (hr : r ≠ []) : openT c (lg ++ p) = some (q, s, lg) := by
  rw [h]
  cases p with
  | nil => exact foldT_nil _ _ _ _
  | cons x p =>
    have hx : x = k := by simp [recB, headB] at hp; exact hp.1
    rw [foldT_cut (scan_cut s k d _ r hd hp hr) (by simp)]
    simp [hx, hk]

/-! the order of the groups -/
structure Same (q r : Core) : Prop where
  floor : q.floor = r.floor
  bodies : q.bodies = r.bodies
  gs : q.gs.Perm r.gs
theorem Same.refl (q : Core) : Same q q := ⟨rfl, rfl, .refl _⟩
theorem Same.symm {q r : Core} (h : Same q r) : Same r q := ⟨h.floor.symm, h.bodies.symm, h.gs.symm⟩
theorem Same.trans {q r u : Core} (h : Same q r) (h' : Same r u) : Same q u := ⟨h.floor.trans h'.floor, h.bodies.trans h'.bodies, h.gs.trans h'.gs⟩
theorem Same.stop {q r : Core} (h : Same q r) : q.stop = r.stop := by unfold Core.stop; rw [h.floor, h.bodies]
theorem Same.names {q r : Core} (h : Same q r) : q.names.Perm r.names := h.gs.map _
theorem Same.keepE {q r : Core} (h : Same q r) (c : Conf) (s : ByteArray) : q.keepE c s = r.keepE c s := by unfold Core.keepE; rw [h.stop, h.bodies]
theorem Same.keep {q r : Core} (h : Same q r) (s : ByteArray) : Same (q.keep s) (r.keep s) := ⟨h.floor, by simp [Core.keep, h.bodies], h.gs⟩
theorem Same.memB {q r : Core} (h : Same q r) (s : ByteArray) : memB s q.names = memB s r.names := by
  rw [Bool.eq_iff_iff]
  simp only [Go.Proofs.YtockkceclkcgbaaGreatDoor.memB, List.any_eq_true]
  exact ⟨fun ⟨x, hx, e⟩ => ⟨x, h.names.mem_iff.1 hx, e⟩, fun ⟨x, hx, e⟩ => ⟨x, h.names.mem_iff.2 hx, e⟩⟩
theorem Same.joinE {q r : Core} (h : Same q r) (s : ByteArray) (fr l : Int) : q.joinE s fr l = r.joinE s fr l := by unfold Core.joinE; rw [h.stop, h.memB, h.gs.length_eq]
theorem Same.join {q r : Core} (h : Same q r) (s : ByteArray) (fr : Int) : Same (q.join s fr) (r.join s fr) := ⟨h.floor, h.bodies, h.gs.append_right _⟩
theorem Same.least {q r : Core} (h : Same q r) : q.least = r.least := by
  unfold Core.least
  rw [h.stop]
  refine h.gs.foldl_eq' (fun x _ y _ z => ?_) _
  omega
theorem Same.goTo {q r : Core} (h : Same q r) (c : Conf) : q.goTo c = r.goTo c := by unfold Core.goTo; rw [h.least]
theorem Same.stays {q r : Core} (h : Same q r) (c : Conf) : q.stays c = r.stays c := by unfold Core.stays; rw [h.goTo, h.gs.length_eq, h.floor]
theorem Same.gone {q r : Core} (h : Same q r) (c : Conf) : q.gone c = r.gone c := by unfold Core.gone; rw [h.stays, h.goTo, h.floor]
theorem Same.release {q r : Core} (h : Same q r) (c : Conf) : Same (q.release c) (r.release c) := by
  unfold Core.release
  rw [h.stays]
  cases r.stays c
  · exact ⟨h.goTo c, by simp [h.bodies, h.goTo, h.floor], h.gs⟩
  · exact h
theorem Same.has {q r : Core} (h : Same q r) (g : CG) (o : Int) : q.has g o = r.has g o := by unfold Core.has Core.first; rw [h.stop, h.floor]
theorem Same.body {q r : Core} (h : Same q r) (o : Int) : q.body o = r.body o := by unfold Core.body; rw [h.bodies, h.floor]
theorem Same.serveAll {q r : Core} (h : Same q r) (c : Conf) : ∀ (l : List Int) (g : CG), q.serveAll c g l = r.serveAll c g l
  | [], _ => rfl
  | o :: l, g => by
    unfold Core.serveAll
    rw [h.has, h.body, h.serveAll c l]
theorem Same.put {q r : Core} (h : Same q r) (s : ByteArray) (g : CG) : Same (q.put s g) (r.put s g) := ⟨h.floor, h.bodies, h.gs.map _⟩
theorem find_mem {q : Core} (hn : q.names.Nodup) {s : ByteArray} {g : CG} : q.find s = some g ↔ (s, g) ∈ q.gs := by
  unfold Core.find
  unfold Core.names at hn
  revert hn
  generalize q.gs = l
  intro hn
  induction l with
  | nil => simp
  | cons p r ih =>
    rw [List.map_cons, List.nodup_cons] at hn
    by_cases h : p.1 = s
    · rw [List.find?_cons_of_pos (by simpa using h)]
      obtain ⟨a, b⟩ := p
      simp only at h
      subst h
      simp only [Option.map_some, Option.some.injEq, List.mem_cons, Prod.mk.injEq, true_and]
      refine ⟨fun e => .inl e.symm, fun e => ?_⟩
      rcases e with e | e
      · exact e.symm
      · exact absurd (List.mem_map.2 ⟨_, e, rfl⟩) hn.1
    · rw [List.find?_cons_of_neg (by simpa using h), ih hn.2, List.mem_cons]
      refine ⟨.inr, fun e => ?_⟩
      rcases e with e | e
      · exact absurd (by rw [← e]) h
      · exact e
theorem Same.find {q r : Core} (h : Same q r) (hn : r.names.Nodup) (s : ByteArray) : q.find s = r.find s := by
  have hq : q.names.Nodup := h.names.nodup_iff.2 hn
  cases hg : r.find s with
  | some g => exact (find_mem hq).2 (h.gs.mem_iff.2 ((find_mem hn).1 hg))
  | none =>
    cases hg2 : q.find s with
    | none => rfl
    | some g => rw [(find_mem hn).2 (h.gs.mem_iff.1 ((find_mem hq).1 hg2))] at hg; cases hg

end Go.Proofs.YtockkceclkcgbaaGreatDoor

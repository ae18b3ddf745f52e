/- What a log tells, as plain mathematics: the queue without its times and leases; what each record makes of it; what a text makes. -/
import Derived.Test.YtockkceclkcgbaaGreatDoorB20
namespace Go.Proofs.YtockkceclkcgbaaGreatDoor
open Go.RowKit

/-- a group without its leases -/
structure CG where
  start : Int
  done : RL
  dead : List Dl
  tr : Int → Int
def PG.core (p : PG) : CG := ⟨p.start, p.done, p.dead, p.tr⟩
/-- a queue without its time and leases -/
structure Core where
  floor : Int
  bodies : List ByteArray
  gs : List (ByteArray × CG)

def clr {α : Type} (z : α) (f : Int → α) (lo hi : Int) : Int → α := fun n => if lo ≤ n ∧ n ≤ hi then z else f n
def CG.finish (g : CG) (lo hi : Int) : CG := { g with done := addTo g.done lo hi, tr := clr 0 g.tr lo hi }
def CG.new (s : Int) : CG := ⟨s, [], [], fun _ => 0⟩
def CG.serve (d : Int) (s : ByteArray) (g : CG) (off : Int) : CG :=
  bif decide (d ≤ g.tr off) then { g.finish off off with dead := g.dead ++ [⟨off, g.tr off, s⟩] } else { g with tr := upd g.tr off (wrap64 (g.tr off + 1)) }
def CG.setTries (d : Int) (g : CG) (off : Int) (t : Nat) : Option CG :=
  if t = 255 then some (g.finish off off) else if d < t then none else if t = 0 then some g else some { g with tr := upd g.tr off t }

namespace Core
def zero : Core := ⟨0, [], []⟩
def stop (q : Core) : Int := q.floor + q.bodies.length
def names (q : Core) : List ByteArray := q.gs.map (·.1)
def first (q : Core) (g : CG) : Int := max q.floor g.start
def has (q : Core) (g : CG) (off : Int) : Bool := btw off (q.first g) (q.stop - 1)
def body (q : Core) (off : Int) : ByteArray := q.bodies.getD (off - q.floor).toNat ⟨#[]⟩
def find (q : Core) (s : ByteArray) : Option CG := (q.gs.find? (fun p => decide (p.1 = s))).map (·.2)
def put (q : Core) (s : ByteArray) (g : CG) : Core := { q with gs := q.gs.map (fun p => if p.1 = s then (s, g) else p) }
def keepE (c : Conf) (q : Core) (s : ByteArray) : Int := bif decide (64 < s.size) then 3 else bif decide (400 ≤ q.stop) then 5 else bif decide (c.k ≤ q.bodies.length) then 4 else 0
def keep (q : Core) (s : ByteArray) : Core := { q with bodies := q.bodies ++ [s] }
def joinE (q : Core) (s : ByteArray) (fr least : Int) : Int :=
  bif btw s.size 1 16 then bif memB s q.names then 7 else bif decide (6 ≤ q.gs.length) then 8 else bif btw fr least q.stop then 0 else 9 else 6
def join (q : Core) (s : ByteArray) (fr : Int) : Core := { q with gs := q.gs ++ [(s, CG.new fr)] }
def least (q : Core) : Int := q.gs.foldl (fun a p => min a (gapI p.2.done p.2.start)) q.stop
def goTo (c : Conf) (q : Core) : Int := q.least - q.least % c.s
def stays (c : Conf) (q : Core) : Bool := decide (q.gs.length = 0) || decide (q.goTo c ≤ q.floor)
def gone (c : Conf) (q : Core) : Int := bif q.stays c then 0 else q.goTo c - q.floor
def release (c : Conf) (q : Core) : Core := bif q.stays c then q else { q with floor := q.goTo c, bodies := q.bodies.drop (q.goTo c - q.floor).toNat }
def serveAll (c : Conf) (q : Core) : CG → List Int → Option CG
  | g, [] => some g
  | g, o :: r => bif q.has g o && !hasB g.done o then serveAll c q (g.serve c.d (q.body o) o) r else none
end Core

/-! a text that is read from its beginning on -/
structure Rd where
  rest : Bs
  short : Bool
namespace Rd
def take (r : Rd) (n : Nat) : Bs × Rd := if r.short = true ∨ r.rest.length < n then ([], ⟨r.rest, true⟩) else (r.rest.take n, ⟨r.rest.drop n, r.short⟩)
def num (r : Rd) (n : Nat) : Nat × Rd := (decN (r.take n).1, (r.take n).2)
def text (r : Rd) : Bs × Rd := (r.num 1).2.take (r.num 1).1
def ended (r : Rd) : Bool := decide (r.rest = []) && !r.short
end Rd
/-- numbers of two bytes to the end of a text; whether the last one was cut -/
def pairsOf : Bs → List Int × Bs × Bool
  | [] => ([], [], false)
  | [x] => ([0], [x], true)
  | a :: b :: r => (((decN [a, b] : Nat) : Int) :: (pairsOf r).1, (pairsOf r).2)
def Rd.nums (r : Rd) : List Int × Rd := if r.short = true then ([], r) else ((pairsOf r.rest).1, ⟨(pairsOf r.rest).2.1, (pairsOf r.rest).2.2⟩)

/-! what Compact wrote -/
def loadBodies (c : Conf) : Nat → Core → Rd → Option (Core × Rd)
  | 0, q, r => some (q, r)
  | n + 1, q, r => bif decide (q.keepE c (mkB r.text.1) = 0) then loadBodies c n (q.keep (mkB r.text.1)) r.text.2 else none
def loadTries (d : Int) : Nat → Int → CG → Rd → Option (CG × Rd)
  | 0, _, g, r => some (g, r)
  | n + 1, off, g, r => match g.setTries d off (r.num 1).1 with
    | none => none
    | some g' => loadTries d n (off + 1) g' (r.num 1).2
def deadOk (q : Core) (g : CG) (off : Int) (s : ByteArray) : Bool :=
  hasB g.done off && !(g.dead.any (fun x => decide (x.off = off))) && decide (s.size ≤ 64) && !(decide (q.floor ≤ off) && !decide (s = q.body off))
def loadDeads (c : Conf) (q : Core) : Nat → CG → Rd → Option (CG × Rd)
  | 0, g, r => some (g, r)
  | n + 1, g, r => bif deadOk q g (r.num 2).1 (mkB (r.num 2).2.text.1) then loadDeads c q n { g with dead := g.dead ++ [⟨(r.num 2).1, c.d, mkB (r.num 2).2.text.1⟩] } (r.num 2).2.text.2 else none
def startG (q : Core) (st : Int) : CG := bif decide (st < q.floor) then (CG.new st).finish st (q.floor - 1) else CG.new st
def loadGroup (c : Conf) (q : Core) (r : Rd) : Option (Core × Rd) :=
  let s := mkB r.text.1
  let st : Int := (r.text.2.num 2).1
  let r1 := (r.text.2.num 2).2
  bif decide (q.joinE s st 0 = 0) then
    match loadTries c.d (q.stop - q.first (startG q st)).toNat (q.first (startG q st)) (startG q st) r1 with
    | none => none
    | some (g, r2) => match loadDeads c q (r2.num 2).1 g (r2.num 2).2 with
      | none => none
      | some (g', r3) => some ({ q with gs := q.gs ++ [(s, g')] }, r3)
  else none
def loadGroups (c : Conf) : Nat → Core → Rd → Option (Core × Rd)
  | 0, q, r => some (q, r)
  | n + 1, q, r => match loadGroup c q r with
    | none => none
    | some (q', r') => loadGroups c n q' r'
def loadC (c : Conf) (d : Bs) : Option Core :=
  let r : Rd := ⟨d, false⟩
  let fl : Int := (r.num 2).1
  bif decide (400 < fl) || !decide (fl % c.s = 0) then none else
  match loadBodies c ((r.num 2).2.num 2).1 ⟨fl, [], []⟩ ((r.num 2).2.num 2).2 with
  | none => none
  | some (q, r1) => match loadGroups c (r1.num 2).1 q (r1.num 2).2 with
    | none => none
    | some (q', r2) => bif r2.ended then some q' else none

/-! what a record makes -/
def replayN (c : Conf) (q : Core) (k : UInt8) (s : ByteArray) (offs : List Int) : Option Core :=
  if k = 114 then (match q.find s with
    | none => none
    | some g => if offs = [] then none else (q.serveAll c g offs).map (q.put s))
  else match offs with
    | [o] => if k = 103 then (bif decide (q.joinE s o q.floor = 0) then some (q.join s o) else none)
      else if k = 97 then (match q.find s with
        | none => none
        | some g => bif decide (g.tr o = 0) then none else some (q.put s (g.finish o o)))
      else none
    | _ => none
def replayC (c : Conf) (q : Core) (new : Bool) (k : UInt8) (d : Bs) : Option Core :=
  if k = 101 then (bif decide (q.keepE c (mkB d) = 0) then some (q.keep (mkB d)) else none)
  else if k = 102 then (bif decide (d = []) && decide (0 < q.gone c) then some (q.release c) else none)
  else if k = 99 then (bif new then loadC c d else none)
  else let r := (Rd.mk d false).text
    bif r.2.nums.2.ended then replayN c q k (mkB r.1) r.2.nums.1 else none
def mayCut (k : UInt8) : Bool := decide (k = 101 ∨ k = 103 ∨ k = 114 ∨ k = 97 ∨ k = 102)
/-- what a text makes of a queue, its log so far lg, the sum of that s -/
def foldT (c : Conf) (q : Core) (s : Nat) (lg t : Bs) : Option (Core × Nat × Bs) :=
  if t = [] then some (q, s, lg) else
  match _h : scanR s t with
  | .cut => bif mayCut (t.headD 0) then some (q, s, lg) else none
  | .wrong => none
  | .got k d r s' => match replayC c q (decide (lg = [])) k d with
    | none => none
    | some q' => foldT c q' s' (lg ++ recB s k d) r
termination_by t.length
decreasing_by exact scan_less (by assumption)
def seedS (c : Conf) : Nat := crcF 0 (encN 2 c.l.toNat ++ (encN 2 c.d.toNat ++ (encN 2 c.s.toNat ++ encN 2 c.k.toNat)))
def openT (c : Conf) (t : Bs) : Option (Core × Nat × Bs) := foldT c .zero (seedS c) [] t

theorem foldT_nil (c : Conf) (q : Core) (s : Nat) (lg : Bs) : foldT c q s lg [] = some (q, s, lg) := by
  rw [foldT]
  simp
theorem foldT_cut {c : Conf} {q : Core} {s : Nat} {lg t : Bs} (h : scanR s t = .cut) (ht : t ≠ []) : foldT c q s lg t = bif mayCut (t.headD 0) then some (q, s, lg) else none := by
  rw [foldT, if_neg ht]
  split <;> simp_all
theorem foldT_wrong {c : Conf} {q : Core} {s : Nat} {lg t : Bs} (h : scanR s t = .wrong) (ht : t ≠ []) : foldT c q s lg t = none := by
  rw [foldT, if_neg ht]
  split <;> simp_all
theorem foldT_got {c : Conf} {q : Core} {s : Nat} {lg t : Bs} {k : UInt8} {d r : Bs} {s' : Nat} (h : scanR s t = .got k d r s') (ht : t ≠ []) :
    foldT c q s lg t = match replayC c q (decide (lg = [])) k d with | none => none | some q' => foldT c q' s' (lg ++ recB s k d) r := by
  rw [foldT, if_neg ht]
  split
  · rename_i e; rw [h] at e; cases e
  · rename_i e; rw [h] at e; cases e
  · rename_i e
    rw [h] at e
    cases e
    rfl
theorem recB_ne (s : Nat) (k : UInt8) (d r : Bs) : recB s k d ++ r ≠ [] := by simp [recB, headB]

end Go.Proofs.YtockkceclkcgbaaGreatDoor

/- A log that is made longer by a record: what it tells, whole and cut; queues that differ in the order of their groups alone. -/
namespace Go.Proofs.YtockkceclkcgbaaGreatDoor
open Go.RowKit

/-- The log lg tells the queue q; s is its sum. -/
def Told (c : Conf) (lg : Bs) (q : Core) (s : Nat) : Prop := ∀ rest, openT c (lg ++ rest) = foldT c q s lg rest
theorem told_zero (c : Conf) : Told c [] .zero (seedS c) := fun _ => rfl
theorem Told.whole {c : Conf} {lg : Bs} {q : Core} {s : Nat} (h : Told c lg q s) : openT c lg = some (q, s, lg) := by
  have := h []
  rw [List.append_nil, foldT_nil] at this
  exact this
theorem Told.one {c : Conf} {lg : Bs} {q q' : Core} {s s' : Nat} (h : Told c lg q s) (h' : Told c lg q' s') : q = q' ∧ s = s' := by
  have := h.whole.symm.trans h'.whole
  simp at this
  exact this
theorem Told.add {c : Conf} {lg : Bs} {q q' : Core} {s : Nat} (h : Told c lg q s) {k : UInt8} {d : Bs} (hd : d.length < 256 ^ 3) (hr : replayC c q (decide (lg = [])) k d = some q') : Told c (lg ++ recB s k d) q' (recS s k d) := fun rest => by
  rw [List.append_assoc, h, foldT_got (scan_rec s k d rest hd) (recB_ne s k d rest), hr]
theorem Told.cut {c : Conf} {lg : Bs} {q : Core} {s : Nat} (h : Told c lg q s) {k : UInt8} {d p r : Bs} (hd : d.length < 256 ^ 3) (hk : mayCut k = true) (hp : p ++ r = recB s k d) (hr : r ≠ []) : openT c (lg ++ p) = some (q, s, lg) := by
  rw [h]
  cases p with
  | nil => exact foldT_nil _ _ _ _
  | cons x p =>
    have hx : x = k := by simp [recB, headB] at hp; exact hp.1
    rw [foldT_cut (scan_cut s k d _ r hd hp hr) (by simp)]
    simp [hx, hk]

/-! the order of the groups -/
structure Same (q r : Core) : Prop where
  floor : q.floor = r.floor
  bodies : q.bodies = r.bodies
  gs : q.gs.Perm r.gs
theorem Same.refl (q : Core) : Same q q := ⟨rfl, rfl, .refl _⟩
theorem Same.symm {q r : Core} (h : Same q r) : Same r q := ⟨h.floor.symm, h.bodies.symm, h.gs.symm⟩
theorem Same.trans {q r u : Core} (h : Same q r) (h' : Same r u) : Same q u := ⟨h.floor.trans h'.floor, h.bodies.trans h'.bodies, h.gs.trans h'.gs⟩
theorem Same.stop {q r : Core} (h : Same q r) : q.stop = r.stop := by unfold Core.stop; rw [h.floor, h.bodies]
theorem Same.names {q r : Core} (h : Same q r) : q.names.Perm r.names := h.gs.map _
theorem Same.keepE {q r : Core} (h : Same q r) (c : Conf) (s : ByteArray) : q.keepE c s = r.keepE c s := by unfold Core.keepE; rw [h.stop, h.bodies]
theorem Same.keep {q r : Core} (h : Same q r) (s : ByteArray) : Same (q.keep s) (r.keep s) := ⟨h.floor, by simp [Core.keep, h.bodies], h.gs⟩
theorem Same.memB {q r : Core} (h : Same q r) (s : ByteArray) : memB s q.names = memB s r.names := by
  rw [Bool.eq_iff_iff]
  simp only [Go.Proofs.YtockkceclkcgbaaGreatDoor.memB, List.any_eq_true]
  exact ⟨fun ⟨x, hx, e⟩ => ⟨x, h.names.mem_iff.1 hx, e⟩, fun ⟨x, hx, e⟩ => ⟨x, h.names.mem_iff.2 hx, e⟩⟩
theorem Same.joinE {q r : Core} (h : Same q r) (s : ByteArray) (fr l : Int) : q.joinE s fr l = r.joinE s fr l := by unfold Core.joinE; rw [h.stop, h.memB, h.gs.length_eq]
theorem Same.join {q r : Core} (h : Same q r) (s : ByteArray) (fr : Int) : Same (q.join s fr) (r.join s fr) := ⟨h.floor, h.bodies, h.gs.append_right _⟩
theorem Same.least {q r : Core} (h : Same q r) : q.least = r.least := by
  unfold Core.least
  rw [h.stop]
  refine h.gs.foldl_eq' (fun x _ y _ z => ?_) _
  omega
theorem Same.goTo {q r : Core} (h : Same q r) (c : Conf) : q.goTo c = r.goTo c := by unfold Core.goTo; rw [h.least]
theorem Same.stays {q r : Core} (h : Same q r) (c : Conf) : q.stays c = r.stays c := by unfold Core.stays; rw [h.goTo, h.gs.length_eq, h.floor]
theorem Same.gone {q r : Core} (h : Same q r) (c : Conf) : q.gone c = r.gone c := by unfold Core.gone; rw [h.stays, h.goTo, h.floor]
theorem Same.release {q r : Core} (h : Same q r) (c : Conf) : Same (q.release c) (r.release c) := by
  unfold Core.release
  rw [h.stays]
  cases r.stays c
  · exact ⟨h.goTo c, by simp [h.bodies, h.goTo, h.floor], h.gs⟩
  · exact h
theorem Same.has {q r : Core} (h : Same q r) (g : CG) (o : Int) : q.has g o = r.has g o := by unfold Core.has Core.first; rw [h.stop, h.floor]
theorem Same.body {q r : Core} (h : Same q r) (o : Int) : q.body o = r.body o := by unfold Core.body; rw [h.bodies, h.floor]
theorem Same.serveAll {q r : Core} (h : Same q r) (c : Conf) : ∀ (l : List Int) (g : CG), q.serveAll c g l = r.serveAll c g l
  | [], _ => rfl
  | o :: l, g => by
    unfold Core.serveAll
    rw [h.has, h.body, h.serveAll c l]
theorem Same.put {q r : Core} (h : Same q r) (s : ByteArray) (g : CG) : Same (q.put s g) (r.put s g) := ⟨h.floor, h.bodies, h.gs.map _⟩
theorem find_mem {q : Core} (hn : q.names.Nodup) {s : ByteArray} {g : CG} : q.find s = some g ↔ (s, g) ∈ q.gs := by
  unfold Core.find
  unfold Core.names at hn
  revert hn
  generalize q.gs = l
  intro hn
  induction l with
  | nil => simp
  | cons p r ih =>
    rw [List.map_cons, List.nodup_cons] at hn
    by_cases h : p.1 = s
    · rw [List.find?_cons_of_pos (by simpa using h)]
      obtain ⟨a, b⟩ := p
      simp only at h
      subst h
      simp only [Option.map_some, Option.some.injEq, List.mem_cons, Prod.mk.injEq, true_and]
      refine ⟨fun e => .inl e.symm, fun e => ?_⟩
      rcases e with e | e
      · exact e.symm
      · exact absurd (List.mem_map.2 ⟨_, e, rfl⟩) hn.1
    · rw [List.find?_cons_of_neg (by simpa using h), ih hn.2, List.mem_cons]
      refine ⟨.inr, fun e => ?_⟩
      rcases e with e | e
      · exact absurd (by rw [← e]) h
      · exact e
theorem Same.find {q r : Core} (h : Same q r) (hn : r.names.Nodup) (s : ByteArray) : q.find s = r.find s := by
  have hq : q.names.Nodup := h.names.nodup_iff.2 hn
  cases hg : r.find s with
  | some g => exact (find_mem hq).2 (h.gs.mem_iff.2 ((find_mem hn).1 hg))
  | none =>
    cases hg2 : q.find s with
    | none => rfl
    | some g => rw [(find_mem hn).2 (h.gs.mem_iff.1 ((find_mem hq).1 hg2))] at hg; cases hg

end Go.Proofs.YtockkceclkcgbaaGreatDoor

/- What Compact writes, as plain mathematics: read again it is the same queue; what holds of every queue whose log is written. -/
namespace Go.Proofs.YtockkceclkcgbaaGreatDoor
open Go.RowKit

theorem setB_nil' : setB [] = true := rfl
theorem hasB_nil' (n : Int) : hasB [] n = false := rfl

def textB (s : ByteArray) : Bs := UInt8.ofNat s.size :: s.data.toList
def byteG (g : CG) (off : Int) : UInt8 := bif hasB g.done off then 255 else UInt8.ofNat (g.tr off).toNat
def triesB (g : CG) : Nat → Int → Bs
  | 0, _ => []
  | n + 1, off => byteG g off :: triesB g n (off + 1)
def deadB (x : Dl) : Bs := encN 2 x.off.toNat ++ textB x.body
def groupB (q : Core) (p : ByteArray × CG) : Bs :=
  textB p.1 ++ (encN 2 p.2.start.toNat ++ (triesB p.2 (q.stop - q.first p.2).toNat (q.first p.2) ++ (encN 2 p.2.dead.length ++ p.2.dead.flatMap deadB)))
def snapB (q : Core) (gs : List (ByteArray × CG)) : Bs :=
  encN 2 q.floor.toNat ++ (encN 2 q.bodies.length ++ (q.bodies.flatMap textB ++ (encN 2 gs.length ++ gs.flatMap (groupB q))))

/-- what holds of every group -/
structure GOk (c : Conf) (q : Core) (g : CG) : Prop where
  start : 0 ≤ g.start ∧ g.start ≤ q.stop
  set : setB g.done = true
  done : ∀ n, hasB g.done n = true → g.start ≤ n ∧ n < q.stop
  low : ∀ n, g.start ≤ n → n < q.floor → hasB g.done n = true
  tr : ∀ n, 0 ≤ g.tr n ∧ g.tr n ≤ c.d
  gone : ∀ n, hasB g.done n = true → g.tr n = 0
  out : ∀ n, g.tr n ≠ 0 → q.first g ≤ n ∧ n < q.stop
  dead : ∀ x ∈ g.dead, hasB g.done x.off = true ∧ x.tr = c.d ∧ x.body.size ≤ 64 ∧ (q.floor ≤ x.off → x.body = q.body x.off)
  once : (g.dead.map (·.off)).Nodup
/-- what holds of every queue -/
structure COk (c : Conf) (q : Core) : Prop where
  d : 1 ≤ c.d ∧ c.d ≤ 10
  s : 1 ≤ c.s
  k : c.k ≤ 100
  fl : 0 ≤ q.floor
  seg : q.floor % c.s = 0
  stop : q.stop ≤ 400
  kept : (q.bodies.length : Int) ≤ c.k
  short : ∀ s ∈ q.bodies, s.size ≤ 64
  few : q.gs.length ≤ 6
  once : q.names.Nodup
  name : ∀ s ∈ q.names, 1 ≤ s.size ∧ s.size ≤ 16
  grp : ∀ p ∈ q.gs, GOk c q p.2

theorem nodup_ints : ∀ (n : Nat) (l : List Int), l.Nodup → (∀ x ∈ l, 0 ≤ x ∧ x < n) → l.length ≤ n
  | 0, l, _, h => by
    cases l with
    | nil => simp
    | cons x r => have := h x (by simp); omega
  | n + 1, l, hn, h => by
    have h1 := nodup_ints n (l.erase n) (hn.erase _) (fun x hx => by
      have h2 := (hn.mem_erase_iff).1 hx
      have := h x h2.2
      omega)
    have h3 : l.length ≤ (l.erase (n : Int)).length + 1 := by
      by_cases hm : (n : Int) ∈ l
      · rw [List.length_erase_of_mem hm]; omega
      · rw [List.erase_of_not_mem hm]; omega
    omega
theorem mkB_data (s : ByteArray) : mkB s.data.toList = s := by
  obtain ⟨a⟩ := s
  simp [mkB]
theorem take_app (p r : Bs) {n : Nat} (h : p.length = n) : (Rd.mk (p ++ r) false).take n = (p, ⟨r, false⟩) := by
  subst h
  simp [Rd.take]
theorem num_enc (w n : Nat) (r : Bs) (h : n < 256 ^ w) : (Rd.mk (encN w n ++ r) false).num w = (n, ⟨r, false⟩) := by
  simp [Rd.num, take_app _ r (encN_length w n), decN_enc h]
theorem num_one (x : UInt8) (r : Bs) : (Rd.mk (x :: r) false).num 1 = (x.toNat, ⟨r, false⟩) := by
  have : (Rd.mk (x :: r) false).take 1 = ([x], ⟨r, false⟩) := by simp [Rd.take]
  simp [Rd.num, this, decN]
theorem text_enc (s : ByteArray) (r : Bs) (h : s.size < 256) : (Rd.mk (textB s ++ r) false).text = (s.data.toList, ⟨r, false⟩) := by
  have h1 : (UInt8.ofNat s.size).toNat = s.size := UInt8.toNat_ofNat'.trans (Nat.mod_eq_of_lt h)
  have h2 := take_app s.data.toList r (n := s.size) (by rw [Array.length_toList]; rfl)
  unfold Rd.text textB
  rw [List.cons_append, num_one]
  simp only [h1, h2]

theorem load_bodies (c : Conf) (fl : Int) (r : Bs) : ∀ (bs : List ByteArray) (pre : List ByteArray), (∀ s ∈ bs, s.size ≤ 64) → fl + (pre.length + bs.length : Nat) ≤ 400 → ((pre.length + bs.length : Nat) : Int) ≤ c.k →
    loadBodies c bs.length ⟨fl, pre, []⟩ ⟨bs.flatMap textB ++ r, false⟩ = some (⟨fl, pre ++ bs, []⟩, ⟨r, false⟩)
  | [], pre, _, _, _ => by simp [loadBodies]
  | s :: bs, pre, h1, h2, h3 => by
    have hs := h1 s (by simp)
    have ih := load_bodies c fl r bs (pre ++ [s]) (fun x hx => h1 x (by simp [hx])) (by simp at h2 ⊢; omega) (by simp at h3 ⊢; omega)
    have e := text_enc s (bs.flatMap textB ++ r) (by omega)
    rw [← List.append_assoc, ← List.flatMap_cons] at e
    have hk : Core.keepE c ⟨fl, pre, []⟩ s = 0 := by
      have a1 : ¬ 64 < s.size := by omega
      have a2 : ¬ 400 ≤ fl + (pre.length : Int) := by simp at h2; omega
      have a3 : ¬ c.k ≤ (pre.length : Int) := by simp at h3; omega
      simp [Core.keepE, Core.stop, a1, a2, a3]
    rw [List.length_cons, loadBodies]
    simp only [e, mkB_data, hk, decide_true, cond_true]
    rw [show Core.keep ⟨fl, pre, []⟩ s = ⟨fl, pre ++ [s], []⟩ from rfl, ih]
    simp

/-- how far a group is read -/
structure Sofar (g g0 : CG) (off : Int) : Prop where
  start : g0.start = g.start
  dead : g0.dead = []
  set : setB g0.done = true
  done : ∀ x, hasB g0.done x = (hasB g.done x && decide (x < off))
  tr : ∀ x, g0.tr x = if x < off then g.tr x else 0
theorem load_tries (d : Int) (g : CG) (r : Bs) (hd : d ≤ 10) (htr : ∀ n, 0 ≤ g.tr n ∧ g.tr n ≤ d) (hgone : ∀ n, hasB g.done n = true → g.tr n = 0) : ∀ (n : Nat) (off : Int) (g0 : CG), 0 ≤ off → off + n ≤ 400 → Sofar g g0 off →
    ∃ g1, loadTries d n off g0 ⟨triesB g n off ++ r, false⟩ = some (g1, ⟨r, false⟩) ∧ Sofar g g1 (off + n)
  | 0, off, g0, _, _, h => ⟨g0, by simp [loadTries, triesB], by simpa using h⟩
  | n + 1, off, g0, h0, h1, h => by
    have hs : ∃ g', g0.setTries d off (byteG g off).toNat = some g' ∧ Sofar g g' (off + 1) := by
      unfold byteG CG.setTries
      cases hh : hasB g.done off with
      | true =>
        have hr : isR off off = true := by simp [isR]; omega
        refine ⟨g0.finish off off, by simp, h.start, h.dead, addTo_setB h.set hr, fun x => ?_, fun x => ?_⟩
        · show hasB (addTo g0.done off off) x = _
          rw [addTo_has x h.set hr, h.done]
          by_cases hx : x = off
          · subst hx; simp [hh, withinB]; omega
          · have a : withinB off off x = false := by simp [withinB]; omega
            have b : decide (x < off) = decide (x < off + 1) := by simp; omega
            rw [a, b, Bool.or_false]
        · show clr 0 g0.tr off off x = _
          unfold clr
          rw [h.tr]
          by_cases hx : x = off
          · subst hx; simp [hgone x hh]
          · have a : ¬ (off ≤ x ∧ x ≤ off) := by omega
            have b : (x < off) = (x < off + 1) := by simp; omega
            rw [if_neg a]
            simp only [b]
      | false =>
        have ht := htr off
        have e : (UInt8.ofNat (g.tr off).toNat).toNat = (g.tr off).toNat := by simp; omega
        simp only [cond_false, e]
        have n1 : ¬ (g.tr off).toNat = 255 := by omega
        have n2 : ¬ d < ((g.tr off).toNat : Int) := by omega
        rw [if_neg n1, if_neg n2]
        have hdone : ∀ x, hasB g0.done x = (hasB g.done x && decide (x < off + 1)) := fun x => by
          rw [h.done]
          by_cases hx : x = off
          · subst hx; simp [hh]
          · have b : decide (x < off) = decide (x < off + 1) := by simp; omega
            rw [b]
        by_cases hz : (g.tr off).toNat = 0
        · rw [if_pos hz]
          refine ⟨g0, rfl, h.start, h.dead, h.set, hdone, fun x => ?_⟩
          rw [h.tr]
          by_cases hx : x = off
          · subst hx
            have : g.tr x = 0 := by omega
            simp [this]
          · have b : (x < off) = (x < off + 1) := by simp; omega
            simp only [b]
        · rw [if_neg hz]
          refine ⟨_, rfl, h.start, h.dead, h.set, hdone, fun x => ?_⟩
          show upd g0.tr off _ x = _
          unfold upd
          by_cases hx : x = off
          · subst hx
            rw [if_pos rfl, if_pos (by omega)]
            omega
          · have b : (x < off) = (x < off + 1) := by simp; omega
            rw [if_neg hx, h.tr]
            simp only [b]
    obtain ⟨g', hg', hS⟩ := hs
    obtain ⟨g1, e1, s1⟩ := load_tries d g r hd htr hgone n (off + 1) g' (by omega) (by omega) hS
    refine ⟨g1, ?_, by rw [show off + ((n + 1 : Nat) : Int) = off + 1 + (n : Int) by omega]; exact s1⟩
    rw [triesB, List.cons_append, loadTries, num_one]
    simp only [hg', e1]

theorem load_deads (c : Conf) (q : Core) (r : Bs) : ∀ (ds : List Dl) (g : CG), (∀ x ∈ ds, 0 ≤ x.off ∧ x.off < 400 ∧ hasB g.done x.off = true ∧ x.tr = c.d ∧ x.body.size ≤ 64 ∧ (q.floor ≤ x.off → x.body = q.body x.off)) → ((g.dead ++ ds).map (·.off)).Nodup →
    loadDeads c q ds.length g ⟨ds.flatMap deadB ++ r, false⟩ = some ({ g with dead := g.dead ++ ds }, ⟨r, false⟩)
  | [], g, _, _ => by simp [loadDeads]
  | x :: ds, g, h1, h2 => by
    obtain ⟨a0, a1, a2, a3, a4, a5⟩ := h1 x (by simp)
    have ih := load_deads c q r ds { g with dead := g.dead ++ [x] } (fun y hy => h1 y (by simp [hy])) (by simpa using h2)
    have hn : ((x.off.toNat : Nat) : Int) = x.off := by omega
    have e1 := num_enc 2 x.off.toNat (textB x.body ++ (ds.flatMap deadB ++ r)) (by omega)
    have e2 := text_enc x.body (ds.flatMap deadB ++ r) (by omega)
    have e0 : (x :: ds).flatMap deadB ++ r = encN 2 x.off.toNat ++ (textB x.body ++ (ds.flatMap deadB ++ r)) := by simp [deadB]
    have hnot : g.dead.any (fun y => decide (y.off = x.off)) = false := by
      rw [List.any_eq_false]
      intro y hy e
      simp only [decide_eq_true_eq] at e
      rw [List.map_append, List.nodup_append] at h2
      exact h2.2.2 y.off (List.mem_map.2 ⟨y, hy, rfl⟩) x.off (by simp) e
    have hok : deadOk q g x.off x.body = true := by
      unfold deadOk
      rw [a2, hnot]
      by_cases hf : q.floor ≤ x.off
      · have := a5 hf
        simp [a4, ← this]
      · simp [a4, hf]
    rw [List.length_cons, loadDeads, e0, e1]
    simp only [e2, mkB_data, hn, hok, cond_true]
    rw [← a3, show (⟨x.off, x.tr, x.body⟩ : Dl) = x from rfl, ih]
    simp

theorem body_of {q : Core} {gs' : List (ByteArray × CG)} (o : Int) : Core.body { q with gs := gs' } o = q.body o := rfl
theorem load_group (c : Conf) (q : Core) (h : COk c q) (pre : List (ByteArray × CG)) (p : ByteArray × CG) (hp : GOk c q p.2) (hs : 1 ≤ p.1.size ∧ p.1.size ≤ 16) (hnew : p.1 ∉ pre.map (·.1)) (h6 : pre.length < 6) (r : Bs) :
    loadGroup c { q with gs := pre } ⟨groupB q p ++ r, false⟩ = some ({ q with gs := pre ++ [p] }, ⟨r, false⟩) := by
  obtain ⟨s, g⟩ := p
  simp only at hp hs hnew
  have hst := hp.start
  have hfl := h.fl
  have hstop := h.stop
  have hkp : (0 : Int) ≤ q.bodies.length := by omega
  have hfs : q.floor ≤ q.stop := by unfold Core.stop; omega
  have e0 : groupB q (s, g) ++ r = textB s ++ (encN 2 g.start.toNat ++ (triesB g (q.stop - q.first g).toNat (q.first g) ++ (encN 2 g.dead.length ++ (g.dead.flatMap deadB ++ r)))) := by simp [groupB]
  have e1 := text_enc s (encN 2 g.start.toNat ++ (triesB g (q.stop - q.first g).toNat (q.first g) ++ (encN 2 g.dead.length ++ (g.dead.flatMap deadB ++ r)))) (by omega)
  have e2 := num_enc 2 g.start.toNat (triesB g (q.stop - q.first g).toNat (q.first g) ++ (encN 2 g.dead.length ++ (g.dead.flatMap deadB ++ r))) (by omega)
  have hn : ((g.start.toNat : Nat) : Int) = g.start := by omega
  have hj : Core.joinE { q with gs := pre } s g.start 0 = 0 := by
    have a1 : btw (s.size : Int) 1 16 = true := by simp [btw]; omega
    have a2 : memB s (Core.names { q with gs := pre }) = false := memB_not.2 hnew
    have a3 : ¬ 6 ≤ pre.length := by omega
    have a4 : btw g.start 0 (Core.stop { q with gs := pre }) = true := by
      have : Core.stop { q with gs := pre } = q.stop := rfl
      simp [btw, this]; omega
    simp [Core.joinE, a1, a2, a3, a4]
  have hfirst : q.first (startG { q with gs := pre } g.start) = q.first g := by
    unfold startG Core.first
    cases decide (g.start < Core.floor { q with gs := pre }) <;> rfl
  have hsof : Sofar g (startG { q with gs := pre } g.start) (q.first g) := by
    unfold startG
    by_cases hlt : g.start < q.floor
    · have hr : isR g.start (q.floor - 1) = true := by simp [isR]; omega
      have hf : q.first g = q.floor := by unfold Core.first; omega
      simp only [hlt, decide_true, cond_true]
      refine ⟨rfl, rfl, addTo_setB setB_nil' hr, fun x => ?_, fun x => ?_⟩
      · show hasB (addTo [] g.start (q.floor - 1)) x = _
        rw [addTo_has x setB_nil' hr, hasB_nil', Bool.false_or, hf]
        by_cases hx : g.start ≤ x ∧ x ≤ q.floor - 1
        · have w1 : withinB g.start (q.floor - 1) x = true := by simp [withinB]; omega
          have w2 : decide (x < q.floor) = true := by simp; omega
          rw [hp.low x hx.1 (by omega), w1, w2]
          rfl
        · have a : withinB g.start (q.floor - 1) x = false := by simp [withinB]; omega
          rw [a]
          by_cases hy : x < q.floor
          · have : hasB g.done x = false := by
              cases hh : hasB g.done x with
              | false => rfl
              | true => have := hp.done x hh; omega
            simp [this]
          · simp [hy]
      · show clr 0 (fun _ => 0) g.start (q.floor - 1) x = _
        have : clr (0 : Int) (fun _ => 0) g.start (q.floor - 1) x = 0 := by unfold clr; split <;> rfl
        rw [this, hf]
        by_cases hy : x < q.floor
        · rw [if_pos hy]
          by_cases hz : g.tr x = 0
          · exact hz.symm
          · have := hp.out x hz
            rw [hf] at this
            omega
        · rw [if_neg hy]
    · have hf : q.first g = g.start := by unfold Core.first; omega
      have hd : decide (g.start < Core.floor { q with gs := pre }) = false := by simpa using hlt
      simp only [hd, cond_false]
      refine ⟨rfl, rfl, setB_nil', fun x => ?_, fun x => ?_⟩
      · show hasB [] x = _
        rw [hasB_nil', hf]
        by_cases hy : x < g.start
        · have : hasB g.done x = false := by
            cases hh : hasB g.done x with
            | false => rfl
            | true => have := hp.done x hh; omega
          simp [this]
        · simp [hy]
      · show (0 : Int) = _
        rw [hf]
        by_cases hy : x < g.start
        · rw [if_pos hy]
          by_cases hz : g.tr x = 0
          · exact hz.symm
          · have := hp.out x hz
            rw [hf] at this
            omega
        · rw [if_neg hy]
  have hf0 : 0 ≤ q.first g := by unfold Core.first; omega
  have hfle : q.first g ≤ q.stop := by unfold Core.first; omega
  obtain ⟨g1, t1, s1⟩ := load_tries c.d g (encN 2 g.dead.length ++ (g.dead.flatMap deadB ++ r)) h.d.2 hp.tr hp.gone (q.stop - q.first g).toNat (q.first g) _ hf0 (by omega) hsof
  have hend : q.first g + ((q.stop - q.first g).toNat : Int) = q.stop := by omega
  rw [hend] at s1
  have hdone : g1.done = g.done := setB_one s1.set hp.set (fun x => by
    rw [s1.done]
    cases hh : hasB g.done x with
    | false => rfl
    | true => have := hp.done x hh; simp; omega)
  have htr : g1.tr = g.tr := funext fun x => by
    rw [s1.tr]
    by_cases hx : x < q.stop
    · rw [if_pos hx]
    · rw [if_neg hx]
      by_cases hz : g.tr x = 0
      · exact hz.symm
      · have := hp.out x hz; omega
  have hg1 : g1 = { g with dead := [] } := by
    obtain ⟨a, b, d, e⟩ := g1
    have := s1.start
    have := s1.dead
    simp_all
  subst hg1
  have hlen : g.dead.length ≤ 400 := by
    have hsub : (g.dead.map (·.off)).length ≤ 400 := by
      have hmem : ∀ x ∈ g.dead.map (·.off), 0 ≤ x ∧ x < 400 := fun x hx => by
        obtain ⟨y, hy, rfl⟩ := List.mem_map.1 hx
        have := hp.done _ (hp.dead y hy).1
        omega
      exact nodup_ints 400 _ hp.once hmem
    simpa using hsub
  have e3 := num_enc 2 g.dead.length (g.dead.flatMap deadB ++ r) (by omega)
  have e4 := load_deads c { q with gs := pre } r g.dead { g with dead := [] } (fun x hx => by
    have h1 := hp.dead x hx
    have h2 := hp.done _ h1.1
    exact ⟨by omega, by omega, h1.1, h1.2.1, h1.2.2.1, h1.2.2.2⟩) (by simpa using hp.once)
  rw [e0]
  simp only [loadGroup, e1, mkB_data, e2, hn, hj, decide_true, cond_true]
  rw [show Core.first { q with gs := pre } (startG { q with gs := pre } g.start) = q.first g from hfirst, show Core.stop { q with gs := pre } = q.stop from rfl, t1]
  simp only [e3, e4]
  simp
theorem load_groups (c : Conf) (q : Core) (h : COk c q) (r : Bs) : ∀ (l pre : List (ByteArray × CG)), (∀ p ∈ l, GOk c q p.2 ∧ 1 ≤ p.1.size ∧ p.1.size ≤ 16) → ((pre ++ l).map (·.1)).Nodup → (pre ++ l).length ≤ 6 →
    loadGroups c l.length { q with gs := pre } ⟨l.flatMap (groupB q) ++ r, false⟩ = some ({ q with gs := pre ++ l }, ⟨r, false⟩)
  | [], pre, _, _, _ => by simp [loadGroups]
  | p :: l, pre, h1, h2, h3 => by
    have hp := h1 p (by simp)
    have hnew : p.1 ∉ pre.map (·.1) := fun hm => by
      rw [List.map_append, List.nodup_append] at h2
      exact h2.2.2 p.1 hm p.1 (by simp) rfl
    have e := load_group c q h pre p hp.1 hp.2 hnew (by simp at h3; omega) (l.flatMap (groupB q) ++ r)
    have ih := load_groups c q h r l (pre ++ [p]) (fun x hx => h1 x (by simp [hx])) (by simpa using h2) (by simpa using h3)
    rw [List.length_cons, loadGroups, List.flatMap_cons, List.append_assoc, e]
    simp only [ih]
    simp
theorem load_snap (c : Conf) (q : Core) (h : COk c q) (gs : List (ByteArray × CG)) (hp : gs.Perm q.gs) : loadC c (snapB q gs) = some { q with gs := gs } := by
  have hfl := h.fl
  have hstop := h.stop
  have hk := h.kept
  have hk2 := h.k
  have hfs : q.floor + q.bodies.length = q.stop := rfl
  have e1 := num_enc 2 q.floor.toNat (encN 2 q.bodies.length ++ (q.bodies.flatMap textB ++ (encN 2 gs.length ++ gs.flatMap (groupB q)))) (by omega)
  have e2 := num_enc 2 q.bodies.length (q.bodies.flatMap textB ++ (encN 2 gs.length ++ gs.flatMap (groupB q))) (by omega)
  have hn : ((q.floor.toNat : Nat) : Int) = q.floor := by omega
  have e3 := load_bodies c q.floor (encN 2 gs.length ++ gs.flatMap (groupB q)) q.bodies [] h.short (by simp; omega) (by simpa using hk)
  have hlen : gs.length ≤ 6 := by rw [hp.length_eq]; exact h.few
  have e4 := num_enc 2 gs.length (gs.flatMap (groupB q)) (by omega)
  have hnd : (gs.map (·.1)).Nodup := (hp.map _).nodup_iff.2 h.once
  have e5 := load_groups c q h [] gs [] (fun p hm => ⟨h.grp p (hp.mem_iff.1 hm), h.name p.1 (List.mem_map.2 ⟨p, hp.mem_iff.1 hm, rfl⟩)⟩) (by simpa using hnd) (by simpa using hlen)
  rw [List.append_nil] at e5
  have hseg := h.seg
  have n1 : ¬ 400 < q.floor := by omega
  simp only [loadC, snapB, e1, hn, n1, decide_false, hseg, decide_true, Bool.not_true, Bool.or_false, cond_false, e2, e3, e4, List.nil_append]
  rw [show (⟨q.floor, q.bodies, []⟩ : Core) = { q with gs := [] } from rfl, e5]
  simp [Rd.ended]

end Go.Proofs.YtockkceclkcgbaaGreatDoor

/- A queue that Open made of a text is the document's queue of which the text speaks, in whatever order its groups lie. -/
import Derived.Test.YtockkceclkcgbaaGreatDoorA38
import Derived.Test.YtockkceclkcgbaaGreatDoorA40
import Derived.Test.YtockkceclkcgbaaGreatDoorA12
namespace Go.Proofs.YtockkceclkcgbaaGreatDoor
open Go.RowKit Go.Maps

/-! blocks that get another tag -/
theorem Blk.move {w : World} {T T' : Nat → Tag} {t t' : Tag} {b : Nat} {cs : Array Value} {e : TypeId} (h : Blk w T t b cs e) (hf : ∀ g, T g = t → T' g = t') : Blk w T' t' b cs e := ⟨hf b h.1, h.2⟩
theorem Row.move {w : World} {T T' : Nat → Tag} {t t' : Tag} {e : TypeId} {size : Nat} {v : Value} {n : Nat} {xs : List Value} (h : Row w T t e size v n xs) (hf : ∀ g, T g = t → T' g = t') : Row w T' t' e size v n xs := ⟨h.1, fun g hg => hf g (h.2 g hg)⟩
theorem Sub.move {w : World} {T T' : Nat → Tag} {t t' : Tag} {v : Value} {xs : List Value} (h : Sub w T t v xs) (hf : ∀ g, T g = t → T' g = t') : Sub w T' t' v xs := by
  obtain ⟨ao, cap, h1, h2, h3⟩ := h
  refine ⟨ao, cap, h1, h2, h3.imp id ?_⟩
  rintro ⟨g, off, cur, e, hT, rest⟩
  exact ⟨g, off, cur, e, hf g hT, rest⟩
theorem TM.move {w : World} {T T' : Nat → Tag} {t t' : Tag} {b : Nat} {f : Int → Int} (h : TM w T t b f) (hf : ∀ g, T g = t → T' g = t') : TM w T' t' b f := ⟨hf b h.1, h.2⟩
theorem WM.move {w : World} {T T' : Nat → Tag} {t t' : Tag} {b : Nat} {f : Int → Option (Int × Bool)} (h : WM w T t b f) (hf : ∀ g, T g = t → T' g = t') : WM w T' t' b f := ⟨hf b h.1, h.2⟩
theorem GM.move {w : World} {T T' : Nat → Tag} {i i' k k' gb : Nat} {p : PG} (h : GM w T i k gb p) (hf : ∀ r g, 3 ≤ r → T g = .q i r k → T' g = .q i' r k') : GM w T' i' k' gb p := by
  obtain ⟨vD, vE, tb, wb, h1, h2, h3, h4, h5⟩ := h
  exact ⟨vD, vE, tb, wb, h1.move (fun g => hf 3 g (by decide)), h2.move (fun g => hf 4 g (by decide)), h3.move (fun g => hf 5 g (by decide)), h4.move (fun g => hf 6 g (by decide)), h5.move (fun g => hf 7 g (by decide))⟩

/-- the blocks of queue j become those of queue i, its groups in another order -/
def moveT (j i : Nat) (σ : Nat → Nat) (T : Nat → Tag) : Nat → Tag := fun k => if (T k).c = 5 ∧ (T k).i = j then ⟨5, i, (T k).r, if 3 ≤ (T k).r then σ (T k).k else (T k).k⟩ else T k
theorem move_low {j i : Nat} {σ : Nat → Nat} {T : Nat → Tag} {r k : Nat} (hr : r < 3) (g : Nat) (h : T g = .q j r k) : moveT j i σ T g = .q i r k := by
  unfold moveT
  rw [h]
  simp [show ¬ 3 ≤ r by omega]
theorem move_grp {j i : Nat} {σ : Nat → Nat} {T : Nat → Tag} {r k : Nat} (hr : 3 ≤ r) (g : Nat) (h : T g = .q j r k) : moveT j i σ T g = .q i r (σ k) := by
  unfold moveT
  rw [h]
  simp [hr]
theorem move_old {j i : Nat} {σ : Nat → Nat} {T : Nat → Tag} {g : Nat} (h : ¬ XT j (T g)) : moveT j i σ T g = T g := by
  unfold moveT
  exact if_neg h
/-- a number that no block's tag bears -/
theorem fresh_num (T : Nat → Tag) : ∀ n : Nat, ∃ m : Nat, ∀ k, k < n → (T k).i < m
  | 0 => ⟨0, fun k hk => absurd hk (by omega)⟩
  | n + 1 => by
    obtain ⟨m, hm⟩ := fresh_num T n
    refine ⟨max m ((T n).i + 1), fun k hk => ?_⟩
    by_cases h : k = n
    · subst h; omega
    · have := hm k (by omega); omega

theorem idx_of {s : ByteArray} {l : List ByteArray} {k : Nat} (hn : l.Nodup) (h : l[k]? = some s) : idx s l = some k := by
  cases hi : idx s l with
  | none => exact absurd (List.mem_of_getElem? h) (idx_none.1 hi)
  | some j =>
    have h2 := idx_some hi
    rw [(List.getElem?_inj (List.getElem?_eq_some_iff.1 h2).1 hn).1 (h2.trans h.symm)]
theorem idx_perm {l l' : List ByteArray} (h : l.Perm l') (s : ByteArray) : (idx s l).isSome = (idx s l').isSome := by
  rw [Bool.eq_iff_iff, Option.isSome_iff_ne_none, Option.isSome_iff_ne_none, Ne, Ne, idx_none, idx_none, h.mem_iff]
theorem NM.perm {w : World} {T : Nat → Tag} {t : Tag} {b : Nat} {names names' : List ByteArray} {f : Nat → Nat} (h : NM w T t b names f) (hp : names.Perm names') (f' : Nat → Nat) (hf : ∀ s k k', idx s names = some k → idx s names' = some k' → f' k' = f k) : NM w T t b names' f' := by
  obtain ⟨h1, n, D, h2, h3, h4, h5⟩ := h
  refine ⟨h1, n, D, h2, h3.trans hp.length_eq, fun s => (h4 s).trans (idx_perm hp s), fun s k' hk' z => ?_⟩
  cases hi : idx s names with
  | none =>
    have := idx_perm hp s
    rw [hi, hk'] at this
    cases this
  | some k => rw [h5 s k hi z, hf s k k' hi hk']
theorem NM.move {w : World} {T T' : Nat → Tag} {t t' : Tag} {b : Nat} {names : List ByteArray} {f : Nat → Nat} (h : NM w T t b names f) (hf : ∀ g, T g = t → T' g = t') : NM w T' t' b names f := ⟨hf b h.1, h.2⟩

/-! the document's queue that is opened anew -/
/-- what must hold of a queue that a text speaks of -/
structure Calm (q : MQ) : Prop where
  time : q.time = 0
  small : q.bodies.length ≤ 400
  few : q.groups.length ≤ 6
  nodup : q.names.Nodup
  short : ∀ s ∈ q.names, s.size ≤ 16
  inv : ∀ g ∈ q.groups, InvG q g
  rel : ∀ g ∈ q.groups, RelG q g (coreG q g).pg
  lsd : Lsd q

theorem co_x {w : World} {T : Nat → Tag} {j i b : Nat} {c : Conf} {co : Core} {vL : Value} {ls : Nat} {lg : Bs} {q : MQ} (h : CO w T j b c co vL ls lg) (hc : q.c = c) (hs : Same co (coreM q)) (hq : Calm q) :
    ∃ σ, XM w (moveT j i σ T) i b q vL (.int .u32 ls) lg := by
  obtain ⟨h1, h2, vB, mb, f, hB, hS, hN, hG, hL⟩ := h
  have hpn : co.names.Perm q.names := by rw [← coreM_names]; exact hs.names
  have hfl : co.floor = q.floor := hs.floor
  have hbo : co.bodies = q.bodies.drop q.floor.toNat := hs.bodies
  refine ⟨fun k => (idx (co.names.getD k ⟨#[]⟩) q.names).getD 0, hq.small, hq.few, hq.nodup, hq.short, hq.inv, vB, mb, fun k => f ((idx (q.names.getD k ⟨#[]⟩) co.names).getD 0), fun k => match q.groups[k]? with | some g => (coreG q g).pg | none => newP 0, ?_, ?_, ?_, fun k g hg => ?_, ?_⟩
  · rw [hc, hq.time, ← hfl]
    exact hB.move (move_low (by decide))
  · rw [← hbo]
    exact hS.move (move_low (by decide))
  · refine (hN.perm hpn _ (fun s k k' hk hk' => ?_)).move (move_low (by decide))
    have e1 : q.names.getD k' ⟨#[]⟩ = s := by rw [List.getD_eq_getElem?_getD, idx_some hk']; rfl
    simp only [e1, hk, Option.getD_some]
  · have hgm := List.mem_of_getElem? hg
    have hmem : (g.name, coreG q g) ∈ co.gs := hs.gs.mem_iff.2 (List.mem_map.2 ⟨g, hgm, rfl⟩)
    obtain ⟨k0, hk0⟩ := List.getElem?_of_mem hmem
    have hn0 : co.names[k0]? = some g.name := by simp [Core.names, hk0]
    have hnk : q.names[k]? = some g.name := by simp [MQ.names, hg]
    have i0 := idx_of h2.once hn0
    have i1 := idx_of hq.nodup hnk
    have e1 : q.names.getD k ⟨#[]⟩ = g.name := by rw [List.getD_eq_getElem?_getD, hnk]; rfl
    have e0 : co.names.getD k0 ⟨#[]⟩ = g.name := by rw [List.getD_eq_getElem?_getD, hn0]; rfl
    have hg0 := hG k0 _ hk0
    simp only [hg, e1, i0, Option.getD_some]
    refine ⟨hg0.move (fun r b' hr hb => ?_), hq.rel g hgm⟩
    have := move_grp (j := j) (i := i) (σ := fun k => (idx (co.names.getD k ⟨#[]⟩) q.names).getD 0) hr b' hb
    rw [this]
    simp only [e0, i1, Option.getD_some]
  · exact hL.move (move_low (by decide))

/-! a queue behind a crash -/
theorem wakeI_tries (l : List It) (n : Int) : triesOf (itemAt (l.map wakeI) n) = triesOf (itemAt l n) ∧ waitOf 0 (itemAt (l.map wakeI) n) = none ∧ doneB (l.map wakeI) n = doneB l n := by
  have e : itemAt (l.map wakeI) n = (itemAt l n).map wakeI := by
    unfold itemAt
    cases decide (0 ≤ n) <;> simp
  rw [doneB_at, doneB_at, e]
  cases itemAt l n with
  | none => exact ⟨rfl, rfl, rfl⟩
  | some x =>
    refine ⟨rfl, ?_, rfl⟩
    simp [waitOf, wakeI]
theorem wake_rel {m : MQ} {g : MG} {p : PG} {ch : Int} (h : RelG m g p) : RelG (wakeM m ch) (wakeG g) (calmP p) := by
  refine ⟨h.start, h.set, fun n => (h.done n).trans (wakeI_tries g.items n).2.2.symm, h.dead.trans (List.map_congr_left (fun n _ => ?_)), fun n => (h.tr n).trans (wakeI_tries g.items n).1.symm, fun n => (wakeI_tries g.items n).2.1.symm⟩
  unfold deadOf
  simp only [wakeM, wakeG, List.getD_eq_getElem?_getD, List.getElem?_map]
  cases g.items[n]? <;> rfl
theorem wake_inv {m : MQ} {g : MG} {ch : Int} (h : InvG m g) : InvG (wakeM m ch) (wakeG g) := by
  have key : ∀ x ∈ (wakeG g).items, ∃ y ∈ g.items, x = wakeI y := fun x hx => by
    obtain ⟨y, hy, rfl⟩ := List.mem_map.1 hx
    exact ⟨y, hy, rfl⟩
  refine ⟨fun x hx => ?_, fun x hx => ?_, fun x hx hlt => ?_, fun n hn => ?_⟩
  · obtain ⟨y, hy, rfl⟩ := key x hx; exact h.done y hy
  · obtain ⟨y, hy, rfl⟩ := key x hx; exact h.tries y hy
  · obtain ⟨y, hy, rfl⟩ := key x hx; exact absurd hlt (by simp [wakeM, wakeI])
  · rw [show (wakeG g).items = g.items.map wakeI from rfl, (wakeI_tries g.items n).2.2]; exact h.dead n hn
theorem wake_core {m : MQ} {ch : Int} (hr : Rels m) (hok : m.Ok) (hsm : m.bodies.length ≤ 400) : coreM (wakeM m ch) = coreM m ∧ ∀ g ∈ m.groups, coreG (wakeM m ch) (wakeG g) = coreG m g := by
  have key : ∀ g ∈ m.groups, coreG (wakeM m ch) (wakeG g) = coreG m g := fun g hg => by
    obtain ⟨hi, p, hp⟩ := hr g hg
    rw [← rel_core hp hi.done (small_items hok hsm hg), ← rel_core (wake_rel (ch := ch) hp) (wake_inv (ch := ch) hi).done (by show (g.items.map wakeI).length ≤ _; rw [List.length_map]; exact small_items hok hsm hg)]
    rfl
  refine ⟨coreM_same rfl rfl wakeM_glen (fun k g g' h1 h2 => ?_), key⟩
  rw [wakeM_group, h1] at h2
  cases h2
  exact ⟨rfl, key g (List.mem_of_getElem? h1)⟩
theorem calm_wake {w : World} {T : Nat → Tag} {i b : Nat} {m : MQ} {vL vS : Value} {lg : Bs} {ch : Int} (h : XM w T i b m vL vS lg) (hok : m.Ok) : Calm (wakeM m ch) := by
  have hr := h.rels
  have hc := (wake_core (ch := ch) hr hok h.small).2
  have hnm : (wakeM m ch).names = m.names := by simp [MQ.names, wakeM, wakeG, Function.comp_def]
  have key : ∀ g ∈ (wakeM m ch).groups, ∃ g0 ∈ m.groups, g = wakeG g0 := fun g hg => by
    obtain ⟨g0, h0, rfl⟩ := List.mem_map.1 hg
    exact ⟨g0, h0, rfl⟩
  refine ⟨rfl, h.small, by rw [wakeM_glen]; exact h.few, by rw [hnm]; exact h.nodup, by rw [hnm]; exact h.short, fun g hg => ?_, fun g hg => ?_, fun g hg x hx hlt => ?_⟩
  · obtain ⟨g0, h0, rfl⟩ := key g hg
    exact wake_inv (hr g0 h0).1
  · obtain ⟨g0, h0, rfl⟩ := key g hg
    obtain ⟨hi, p, hp⟩ := hr g0 h0
    rw [hc g0 h0, ← rel_core hp hi.done (small_items hok h.small h0)]
    exact wake_rel hp
  · obtain ⟨g0, h0, rfl⟩ := key g hg
    obtain ⟨y, hy, rfl⟩ := List.mem_map.1 hx
    exact absurd hlt (by simp [wakeM, wakeI])

/-- The text speaks of the queue q, of the configuration c. -/
structure Dec (c : Conf) (s : ByteArray) (q : MQ) : Prop where
  conf : q.c = c
  good : goodC c = true
  size : s.data.toList.length ≤ 1000000000000
  calm : Calm q
  told : ∃ co su lg, openT c s.data.toList = some (co, su, lg) ∧ Same co (coreM q) ∧ LogIs q lg su

theorem dec_log {w : World} {T : Nat → Tag} {i b : Nat} {m : MQ} {vL : Value} {su : Nat} {lg : Bs} {ch : Int} (h : XM w T i b m vL (.int .u32 su) lg) (hl : LogIs m lg su) (hok : m.Ok) : Dec m.c (mkB lg) (wakeM m ch) := by
  have hc := (wake_core (ch := ch) h.rels hok h.small).1
  obtain ⟨q, hT, hS⟩ := hl.told
  refine ⟨rfl, hok.good, by rw [mkB_list]; have := hl.len; omega, calm_wake h hok, q, su, lg, ?_, ?_, hl.same rfl hc⟩
  · rw [mkB_list]; exact hT.whole
  · rw [hc]; exact hS

theorem step_moved {w w' : World} {T T' : Nat → Tag} {j i : Nat} {σ : Nat → Nat} (h : Step (XT j) w T w' T') (hj : ∀ k, k < w.heap.size → (T k).i < j) : Step (fun _ => False) w T w' (moveT j i σ T') := by
  have hn : ∀ k, k < w.heap.size → ¬ XT j (T k) := fun k hk hx => by
    have := hj k hk
    have := hx.2
    omega
  exact ⟨h.os, h.tape, h.output, h.size, fun k hk => by rw [move_old (by rw [h.tag k hk]; exact hn k hk), h.tag k hk], fun k hk _ => h.block k hk (hn k hk)⟩

theorem xopenD_any (a0 a1 : Addr) (c : Conf) (s : ByteArray) (q : MQ) (i : Nat) (w : World) (T : Nat → Tag) (hLd : Laid w T a0 a1) (hd : Dec c s q) :
    Calls Tryz.prog 25 #[.agg c.cells, .string s] w fun e w' => ∃ b, e = .returned (.tuple #[.pointer (some ⟨b, 0, none⟩), .int .i64 0]) ∧ ∃ T', Step (fun _ => False) w T w' T' ∧ X w' T' i b q := by
  obtain ⟨j, hj⟩ := fresh_num T w.heap.size
  obtain ⟨co, su, lg, ho, hs, hl⟩ := hd.told
  have hmk : mkB s.data.toList = s := mkB_data s
  refine (open_any c s j w T (fun w' T' b => ∃ vL, CO w' T' j b c co vL su lg) False (fun b mb w1 T1 hc hs1 hB hN => ?_)).mono ?_
  · have hr := restore_any c j b mb s.data.toList a0 a1 w1 T1 hc hB hN (hLd.step hs1 (by simp [XT])) (fun _ => load_any j b c) hd.size
    rw [hmk, ho] at hr
    refine hr.mono ?_
    rintro e w2 ⟨T2, s2, rfl, hco⟩
    exact ⟨T2, s2, .inl ⟨rfl, hco⟩⟩
  · rintro e w2 (⟨h, _⟩ | ⟨hc, T2, s2, (⟨b, rfl, vL, hco⟩ | ⟨hF, _⟩)⟩)
    · rw [hd.good] at h; cases h
    · obtain ⟨σ, hx⟩ := co_x (i := i) hco hd.conf hs hd.calm
      exact ⟨b, rfl, moveT j i σ T2, step_moved s2 hj, vL, su, lg, hx, hl, hd.calm.lsd⟩
    · exact hF.elim

/-- the queue, with its log shown: the sum, and the text -/
def XG (w : World) (T : Nat → Tag) (i b : Nat) (m : MQ) (gh : Nat × Bs) : Prop := ∃ vL : Value, XM w T i b m vL (.int .u32 gh.1) gh.2 ∧ LogIs m gh.2 gh.1 ∧ Lsd m
/-- what each call makes of the log -/
def FG : GF (Nat × Bs) where
  new c := (seedS c, [])
  enq m s gh := (logS (decide (menqE m s = 0)) gh.1 101 s.data.toList, logL (decide (menqE m s = 0)) gh.2 gh.1 101 s.data.toList)
  grp m s fr gh := (logS (decide (mgrpE m s fr = 0)) gh.1 103 (namedB s [fr]), logL (decide (mgrpE m s fr = 0)) gh.2 gh.1 103 (namedB s [fr]))
  recv m s n gh := (logS (!(servedL m s n).isEmpty) gh.1 114 (namedB s (servedL m s n)), logL (!(servedL m s n).isEmpty) gh.2 gh.1 114 (namedB s (servedL m s n)))
  ack m s off tr gh := (logS (decide (leasedE m s off tr = 0)) gh.1 97 (namedB s [off]), logL (decide (leasedE m s off tr = 0)) gh.2 gh.1 97 (namedB s [off]))
  ret m gh := (logS (decide (0 < retainN m)) gh.1 102 [], logL (decide (0 < retainN m)) gh.2 gh.1 102 [])

theorem xl (B : Int) (hB : B ≤ 3999999999999940000) : XL XG FG B where
  ackNo := fun m s off tr gh h => by simp [FG, logS, logL, h]
  step := fun hx hs hS => by
    obtain ⟨vL, hx, h2⟩ := hx
    exact ⟨vL, hx.step hs hS, h2⟩
  opn := fun c i w T => by
    refine (xopenL_any c i w T).mono ?_
    rintro e w2 (h | ⟨hc, b, T2, rfl, s2, hx⟩)
    · exact .inl h
    · exact .inr ⟨hc, b, T2, rfl, s2, _, hx, log_new hc⟩
  enq := fun i b m t gh w T hx hf => by
    obtain ⟨vL, hx, h2, h3⟩ := hx
    refine (xenq_any i b m t w T hx hf.ok h2.lt (by have := h2.len; omega)).mono ?_
    rintro e w1 ⟨rfl, T1, vL1, s1, hx1⟩
    exact ⟨rfl, T1, s1, vL1, hx1, log_enq h2 hx.rels hf.ok hx.small, lsd_enq h3 hf.ok⟩
  grp := fun i b m nm fr gh w T hx hf => by
    obtain ⟨vL, hx, h2, h3⟩ := hx
    refine (xgrp_any i b m nm fr w T hx hf.ok h2.lt (by have := h2.len; omega)).mono ?_
    rintro e w1 ⟨rfl, T1, vL1, s1, hx1⟩
    exact ⟨rfl, T1, s1, vL1, hx1, log_grp h2 hf.ok hx.small, lsd_grp h3 hf.ok⟩
  recv := fun i b m nm n t gh w T hx hf => by
    obtain ⟨vL, hx, h2, h3⟩ := hx
    refine (xrecv_any i b m nm n t w T hx hf hB h2.lt (by have := h2.len; omega)).mono ?_
    rintro e w1 ⟨ao, cap, rfl, T1, vL1, s1, hx1, hR⟩
    obtain ⟨l1, l2⟩ := log_recv (nm := nm) (n := n) h2 hx.rels hf.ok hx.small hx.nodup hx.short h3
    exact ⟨ao, cap, rfl, T1, s1, ⟨vL1, hx1, l1, l2⟩, hR⟩
  ack := fun i b m nm off tr gh w T hx hf => by
    obtain ⟨vL, hx, h2, h3⟩ := hx
    refine (xack_any i b m nm off tr w T hx hf.ok h2.lt (by have := h2.len; omega)).mono ?_
    rintro e w1 ⟨rfl, T1, vL1, s1, hx1⟩
    exact ⟨rfl, T1, s1, vL1, hx1, log_ack h2 hx.rels hf.ok hx.small hx.nodup hx.short h3, lsd_ack hf.ok h3⟩
  nack := fun i b m nm off tr d gh w T hx hf => by
    obtain ⟨vL, hx, h2, h3⟩ := hx
    refine (xnack_any i b m nm off tr d w T hx hf.ok).mono ?_
    rintro e w1 ⟨rfl, T1, s1, hx1⟩
    exact ⟨rfl, T1, s1, vL, hx1, log_nack h2 hx.rels hf.ok hx.small h3⟩
  tick := fun i b m d gh w T hx hf => by
    obtain ⟨vL, hx, h2, h3⟩ := hx
    refine (xtick_any i b m d w T hx hf.ok).mono ?_
    rintro e w1 ⟨rfl, T1, s1, hx1⟩
    exact ⟨rfl, T1, s1, vL, hx1, log_tick h2 h3⟩
  done := fun i b m nm t gh w T hx hf => by
    obtain ⟨vL, hx, h2⟩ := hx
    refine (xdone_any i b m nm t w T hx hf.ok).mono ?_
    rintro e w1 ⟨ao, cap, rfl, T1, s1, hx1, hR⟩
    exact ⟨ao, cap, rfl, T1, s1, ⟨vL, hx1, h2⟩, hR⟩
  dead := fun i b m nm t gh w T hx hf => by
    obtain ⟨vL, hx, h2⟩ := hx
    refine (xdead_any i b m nm t w T hx (hf.dead hx.small)).mono ?_
    rintro e w1 ⟨ao, cap, rfl, T1, s1, hx1, hR⟩
    exact ⟨ao, cap, rfl, T1, s1, ⟨vL, hx1, h2⟩, hR⟩
  span := fun i b m gh w T hx hf => by
    obtain ⟨vL, hx, h2⟩ := hx
    refine (xspan_any i b m w T hx hf.ok).mono ?_
    rintro e w1 ⟨rfl, T1, s1, hx1⟩
    exact ⟨rfl, T1, s1, vL, hx1, h2⟩
  ret := fun i b m gh w T hx hf => by
    obtain ⟨vL, hx, h2, h3⟩ := hx
    refine (xretain_any i b m w T hx hf.ok h2.lt (by have := h2.len; omega)).mono ?_
    rintro e w1 ⟨rfl, T1, vL1, s1, hx1⟩
    exact ⟨rfl, T1, s1, vL1, hx1, log_ret h2 hx.rels hf.ok hx.small, lsd_ret h3⟩

/-- Open of a queue's log: the queue as it is behind a crash, with that log -/
theorem xopenG_any (a0 a1 : Addr) (m : MQ) (gh : Nat × Bs) (i : Nat) (hok : m.Ok) (hcalm : Calm (wakeM m 0)) (hl : LogIs m gh.2 gh.1) (hlw : LogIs (wakeM m 0) gh.2 gh.1) (hcw : coreM (wakeM m 0) = coreM m) (w : World) (T : Nat → Tag) (hLd : Laid w T a0 a1) :
    Calls Tryz.prog 25 #[.agg m.c.cells, .string (mkB gh.2)] w fun e w' => ∃ b, e = .returned (.tuple #[.pointer (some ⟨b, 0, none⟩), .int .i64 0]) ∧ ∃ T', Step (fun _ => False) w T w' T' ∧ XG w' T' i b (wakeM m 0) gh := by
  obtain ⟨j, hj⟩ := fresh_num T w.heap.size
  obtain ⟨co, hT, hS⟩ := hl.told
  have ho := hT.whole
  refine (open_any m.c (mkB gh.2) j w T (fun w' T' b => ∃ vL, CO w' T' j b m.c co vL gh.1 gh.2) False (fun b mb w1 T1 hc hs1 hB hN => ?_)).mono ?_
  · have hr := restore_any m.c j b mb gh.2 a0 a1 w1 T1 hc hB hN (hLd.step hs1 (by simp [XT])) (fun _ => load_any j b m.c) (by have := hl.len; omega)
    rw [ho] at hr
    refine hr.mono ?_
    rintro e w2 ⟨T2, s2, rfl, hco⟩
    exact ⟨T2, s2, .inl ⟨rfl, hco⟩⟩
  · rintro e w2 (⟨h, _⟩ | ⟨hc, T2, s2, (⟨b, rfl, vL, hco⟩ | ⟨hF, _⟩)⟩)
    · rw [hok.good] at h; cases h
    · obtain ⟨σ, hx⟩ := co_x (i := i) (q := wakeM m 0) hco rfl (by rw [hcw]; exact hS) hcalm
      exact ⟨b, rfl, moveT j i σ T2, step_moved s2 hj, vL, hx, hlw, hcalm.lsd⟩
    · exact hF.elim

/-- a run can crash -/
theorem xe (a0 a1 : Addr) (B : Int) (hB : B ≤ 3999999999999940000) : XE XG FG (fun w T => Laid w T a0 a1) B where
  xl := xl B hB
  ld := fun h hs hS => h.step hs hS
  log := fun i b m gh w T hx hf => by
    obtain ⟨vL, hx, h2, h3⟩ := hx
    refine (xlog_any i b m w T hx).mono ?_
    rintro e w1 ⟨rfl, rfl⟩
    have hc := (wake_core (ch := 0) hx.rels hf.ok hx.small).1
    exact ⟨_, rfl, ⟨T, Step.refl _ _ _, vL, hx, h2, h3⟩, fun w1 T1 hl => xopenG_any a0 a1 m gh i hf.ok (calm_wake hx hf.ok) h2 (h2.same rfl hc) hc w1 T1 hl⟩

end Go.Proofs.YtockkceclkcgbaaGreatDoor

/- The count of changes moves just where the log grows. -/
namespace Go.Proofs.YtockkceclkcgbaaGreatDoor
open Go.RowKit

theorem wrap_ne (n : Int) : wrap64 (n + 1) ≠ n := by
  unfold wrap64
  omega
theorem chg_enq (m : MQ) (s : ByteArray) : decide ((menqM m s).changes ≠ m.changes) = decide (menqE m s = 0) := by
  unfold menqM
  cases h : decide (menqE m s = 0)
  · simp
  · simp [wrap_ne]
theorem chg_grp (m : MQ) (s : ByteArray) (fr : Int) : decide ((mgrpM m s fr).changes ≠ m.changes) = decide (mgrpE m s fr = 0) := by
  unfold mgrpM
  cases h : decide (mgrpE m s fr = 0)
  · simp
  · simp [wrap_ne]
theorem chg_ack (m : MQ) (s : ByteArray) (off tr : Int) : decide ((ackM m s off tr).changes ≠ m.changes) = decide (leasedE m s off tr = 0) := by
  unfold ackM
  cases h : decide (leasedE m s off tr = 0)
  · simp
  · simp [wrap_ne]
theorem chg_ret (m : MQ) : decide ((retainM m).changes ≠ m.changes) = decide (0 < retainN m) := by
  unfold retainM retainN
  cases h : retainB m
  · have h2 : ¬ retainTo m ≤ m.floor := fun e => by simp [retainB, e] at h
    simp [wrap_ne]
    omega
  · simp
theorem chg_leased (m : MQ) (s : ByteArray) (off tr : Int) (f : It → It) : (onLeased m s off tr f).changes = m.changes := by
  unfold onLeased
  cases m.at s with
  | none => rfl
  | some k =>
    simp only
    cases decide (tr = 0) <;> rfl
theorem chg_nack (m : MQ) (s : ByteArray) (off tr d : Int) : (nackM m s off tr d).changes = m.changes := by
  unfold nackM
  cases decide (rangedE m s off tr d 0 = 0)
  · rfl
  · simp only [cond_true]
    exact chg_leased _ _ _ _ _
theorem chg_ext (m : MQ) (s : ByteArray) (off tr d : Int) : (extendM m s off tr d).changes = m.changes := by
  unfold extendM
  cases decide (rangedE m s off tr d 1 = 0)
  · rfl
  · simp only [cond_true]
    exact chg_leased _ _ _ _ _
theorem chg_tick (m : MQ) (d : Int) : (tickM m d).changes = m.changes := by
  unfold tickM
  cases btw d 0 60000 <;> rfl

end Go.Proofs.YtockkceclkcgbaaGreatDoor

/- Receive: the count of changes moves just where the log grows. -/
namespace Go.Proofs.YtockkceclkcgbaaGreatDoor
open Go.RowKit

theorem wrap_add (n : Int) (k : Nat) : wrap64 (wrap64 (n + 1) + k) = wrap64 (n + (k + 1 : Nat)) := by
  unfold wrap64
  omega
theorem wrap_far (n : Int) (k : Nat) (h : 0 < k) (h2 : k ≤ 1000000) : wrap64 (n + k) ≠ n := by
  unfold wrap64
  omega
theorem visit_ch {m : MQ} {start : Int} {st : RS} {v : Nat} {x : It} (hx : st.items[v]? = some x) (hp : passed m start v x = false) : (visit m start st v).ch = wrap64 (st.ch + 1) := by
  unfold visit
  rw [hx]
  simp only [recvOne, hp, cond_false]
  cases decide (m.c.d ≤ x.tries) <;> rfl
theorem take_ch {m : MQ} {g : MG} {n : Int} : ∀ (l : List Nat) (st : RS), l.Nodup → (∀ u ∈ l, ∃ x, st.items[u]? = some x ∧ passed m g.start u x = false) →
    (takeV m g.start n l st).ch = if servedTo m g.start n l st = [] then st.ch else wrap64 (st.ch + (servedTo m g.start n l st).length)
  | [], st, _, _ => by simp [takeV, servedTo]
  | v :: r, st, hn, hc => by
    by_cases h : n ≤ st.out.length
    · rw [takeV_full h, served_full h]
      simp
    · have ih := take_ch (n := n) r (visit m g.start st v) (List.nodup_cons.1 hn).2 (cand_rest hn hc)
      obtain ⟨x, hx, hp⟩ := hc v (by simp)
      rw [take_step h, served_step h, ih, visit_ch hx hp]
      by_cases e : servedTo m g.start n r (visit m g.start st v) = []
      · simp [e]
      · rw [if_neg e, if_neg (by simp), wrap_add, List.length_cons]
theorem served_le {m : MQ} {start n : Int} : ∀ (l : List Nat) (st : RS), (servedTo m start n l st).length ≤ l.length
  | [], _ => by simp [servedTo]
  | v :: r, st => by
    by_cases h : n ≤ st.out.length
    · rw [served_full h]
      simp
    · rw [served_step h, List.length_cons, List.length_cons]
      have := served_le (m := m) (start := start) (n := n) r (visit m start st v)
      omega
theorem chg_recv {m : MQ} {s : ByteArray} {n : Int} (hok : m.Ok) (hsm : m.bodies.length ≤ 400) : ((recvM m s n).changes = m.changes) ↔ servedL m s n = [] := by
  unfold recvM servedL
  cases m.at s with
  | none => simp
  | some k =>
    simp only
    cases hg : m.groups[k]? with
    | none => simp
    | some g =>
      simp only
      cases btw n 1 32 with
      | false => simp
      | true =>
        simp only [cond_true, MQ.setG]
        rw [recvAll_take (hok.len g (List.mem_of_getElem? hg)), take_ch _ _ (take_nodup m g _) (fun v hv => take_cand hv)]
        unfold servedAll
        have q1 := againTo_few (m := m) (g := g) (k := m.bodies.length) (a := 0) (fun v hv => by omega)
        have q2 := newTo_few (m := m) (g := g) (k := m.bodies.length) (a := 0) (fun v hv => by omega)
        have q3 := served_le (m := m) (start := g.start) (n := n) (againTo m g m.bodies.length ++ newTo m g m.bodies.length) ⟨g.items, g.dead, m.changes, []⟩
        rw [List.length_append] at q3
        generalize servedTo m g.start n (againTo m g m.bodies.length ++ newTo m g m.bodies.length) ⟨g.items, g.dead, m.changes, []⟩ = L at *
        cases L with
        | nil => simp [offsI]
        | cons a r =>
          have h := wrap_far m.changes (a :: r).length (by simp) (by omega)
          rw [if_neg (by simp)]
          exact ⟨fun e => absurd e h, fun e => by simp [offsI] at e⟩

end Go.Proofs.YtockkceclkcgbaaGreatDoor

/- The program's queue with its log shown: each call of the law writes one record at most, and just where the count of changes moves. -/
namespace Go.Proofs.YtockkceclkcgbaaGreatDoor
open Go.RowKit

/-- A call writes nothing and the count of changes stays; or it writes one record that may be cut, and the count moves. -/
def One (m : MQ) (gh : Nat × Bs) (m' : MQ) (gh' : Nat × Bs) : Prop :=
  m'.c = m.c ∧ ((gh' = gh ∧ m'.changes = m.changes) ∨ (m'.changes ≠ m.changes ∧ ∃ (k : UInt8) (d : Bs), mayCut k = true ∧ d.length < 256 ^ 3 ∧ gh' = (recS gh.1 k d, gh.2 ++ recB gh.1 k d)))
/-- the queue ahead of a call -/
def XAt (m0 : MQ) (gh0 : Nat × Bs) (w : World) (T : Nat → Tag) (i b : Nat) (m : MQ) : Prop := m = m0 ∧ XG w T i b m gh0
/-- the queue behind a call -/
def ZAt (m0 : MQ) (gh0 : Nat × Bs) (w : World) (T : Nat → Tag) (i b : Nat) (m : MQ) : Prop := ∃ gh, XG w T i b m gh ∧ One m0 gh0 m gh

theorem XG.log {w : World} {T : Nat → Tag} {i b : Nat} {m : MQ} {gh : Nat × Bs} (h : XG w T i b m gh) : LogIs m gh.2 gh.1 := by
  obtain ⟨_, _, h, _⟩ := h
  exact h
theorem XG.small {w : World} {T : Nat → Tag} {i b : Nat} {m : MQ} {gh : Nat × Bs} (h : XG w T i b m gh) : m.bodies.length ≤ 400 := by
  obtain ⟨_, h, _⟩ := h
  exact h.small
theorem one_log {m m' : MQ} {gh : Nat × Bs} {b : Bool} {k : UInt8} {d : Bs} (hc : m'.c = m.c) (hb : decide (m'.changes ≠ m.changes) = b) (hk : mayCut k = true) (hl : LogIs m' (logL b gh.2 gh.1 k d) (logS b gh.1 k d)) : One m gh m' (logS b gh.1 k d, logL b gh.2 gh.1 k d) := by
  cases b with
  | false => exact ⟨hc, .inl ⟨rfl, by simpa using hb⟩⟩
  | true =>
    refine ⟨hc, .inr ⟨by simpa using hb, k, d, hk, ?_, rfl⟩⟩
    have h1 := hl.len
    have h2 : logL true gh.2 gh.1 k d = gh.2 ++ recB gh.1 k d := rfl
    rw [h2, List.length_append, recB_length] at h1
    omega
theorem chg_recvB {m : MQ} {s : ByteArray} {n : Int} (hok : m.Ok) (hsm : m.bodies.length ≤ 400) : decide ((recvM m s n).changes ≠ m.changes) = !(servedL m s n).isEmpty := by
  have h := chg_recv (s := s) (n := n) hok hsm
  cases hl : servedL m s n with
  | nil => simp [h.2 hl]
  | cons a r =>
    have : (recvM m s n).changes ≠ m.changes := fun e => by rw [h.1 e] at hl; cases hl
    simp [this]
theorem one_same {m m' : MQ} {gh : Nat × Bs} (hc : m'.c = m.c) (h : m'.changes = m.changes) : One m gh m' gh := ⟨hc, .inl ⟨rfl, h⟩⟩

theorem xz (m0 : MQ) (gh0 : Nat × Bs) (B : Int) (hB : B ≤ 3999999999999940000) : XZ (XAt m0 gh0) (ZAt m0 gh0) B where
  stepZ := fun h hs hS => by
    obtain ⟨gh, hx, ho⟩ := h
    exact ⟨gh, (xl B hB).step hx hs hS, ho⟩
  sub := fun h => by
    obtain ⟨e, hx⟩ := h
    exact ⟨gh0, hx, by rw [e]; exact one_same rfl rfl⟩
  step := fun h hs hS => ⟨h.1, (xl B hB).step h.2 hs hS⟩
  enq := fun i b m s w T h hf => by
    obtain ⟨e, hx⟩ := h
    rw [e] at hx hf ⊢
    refine ((xl B hB).enq i b m0 s w T hx hf).mono ?_
    rintro e w1 ⟨rfl, T1, s1, hx1⟩
    exact ⟨rfl, T1, s1, _, hx1, one_log (menqM_c m0 s) (chg_enq m0 s) (by decide) hx1.log⟩
  grp := fun i b m s fr w T h hf => by
    obtain ⟨e, hx⟩ := h
    rw [e] at hx hf ⊢
    refine ((xl B hB).grp i b m0 s fr w T hx hf).mono ?_
    rintro e w1 ⟨rfl, T1, s1, hx1⟩
    exact ⟨rfl, T1, s1, _, hx1, one_log (mgrpM_c m0 s fr) (chg_grp m0 s fr) (by decide) hx1.log⟩
  recv := fun i b m s n t w T h hf => by
    obtain ⟨e, hx⟩ := h
    rw [e] at hx hf ⊢
    refine ((xl B hB).recv i b m0 s n t w T hx hf).mono ?_
    rintro e w1 ⟨ao, cap, rfl, T1, s1, hx1, hR⟩
    exact ⟨ao, cap, rfl, T1, s1, ⟨_, hx1, one_log (recvM_c m0 s n) (chg_recvB hf.ok hx.small) (by decide) hx1.log⟩, hR⟩
  ack := fun i b m s off tr w T h hf => by
    obtain ⟨e, hx⟩ := h
    rw [e] at hx hf ⊢
    refine ((xl B hB).ack i b m0 s off tr w T hx hf).mono ?_
    rintro e w1 ⟨rfl, T1, s1, hx1⟩
    exact ⟨rfl, T1, s1, _, hx1, one_log (ackM_c m0 s off tr) (chg_ack m0 s off tr) (by decide) hx1.log⟩
  nack := fun i b m s off tr d w T h hf => by
    obtain ⟨e, hx⟩ := h
    rw [e] at hx hf ⊢
    refine ((xl B hB).nack i b m0 s off tr d w T hx hf).mono ?_
    rintro e w1 ⟨rfl, T1, s1, hx1⟩
    exact ⟨rfl, T1, s1, _, hx1, one_same (nackM_c m0 s off tr d) (chg_nack m0 s off tr d)⟩
  ext := fun i b m s off tr d w T h hf => by
    obtain ⟨e, hx⟩ := h
    rw [e] at hx hf ⊢
    obtain ⟨vL, hx, h2, h3⟩ := hx
    refine (xextend_any i b m0 s off tr d w T hx hf.ok).mono ?_
    rintro e w1 ⟨rfl, T1, s1, hx1⟩
    exact ⟨rfl, T1, s1, gh0, ⟨vL, hx1, log_ext h2 hx.rels hf.ok hx.small h3⟩, one_same (extendM_c m0 s off tr d) (chg_ext m0 s off tr d)⟩
  tick := fun i b m d w T h hf => by
    obtain ⟨e, hx⟩ := h
    rw [e] at hx hf ⊢
    refine ((xl B hB).tick i b m0 d w T hx hf).mono ?_
    rintro e w1 ⟨rfl, T1, s1, hx1⟩
    exact ⟨rfl, T1, s1, _, hx1, one_same (tickM_c m0 d) (chg_tick m0 d)⟩
  done := fun i b m s t w T h hf => by
    obtain ⟨e, hx⟩ := h
    refine ((xl B hB).done i b m s t w T hx hf).mono ?_
    rintro _ w1 ⟨ao, cap, rfl, T1, s1, hx1, hR⟩
    exact ⟨ao, cap, rfl, T1, s1, ⟨e, hx1⟩, hR⟩
  dead := fun i b m s t w T h hf => by
    obtain ⟨e, hx⟩ := h
    refine ((xl B hB).dead i b m s t w T hx hf).mono ?_
    rintro _ w1 ⟨ao, cap, rfl, T1, s1, hx1, hR⟩
    exact ⟨ao, cap, rfl, T1, s1, ⟨e, hx1⟩, hR⟩
  span := fun i b m w T h hf => by
    obtain ⟨e, hx⟩ := h
    refine ((xl B hB).span i b m w T hx hf).mono ?_
    rintro _ w1 ⟨rfl, T1, s1, hx1⟩
    exact ⟨rfl, T1, s1, e, hx1⟩
  ret := fun i b m w T h hf => by
    obtain ⟨e, hx⟩ := h
    rw [e] at hx hf ⊢
    refine ((xl B hB).ret i b m0 w T hx hf).mono ?_
    rintro e w1 ⟨rfl, T1, s1, hx1⟩
    exact ⟨rfl, T1, s1, _, hx1, one_log (retainM_c m0) (chg_ret m0) (by decide) hx1.log⟩

/-- a queue's memory says nothing of the count of changes -/
theorem XG.count {w : World} {T : Nat → Tag} {i b : Nat} {m : MQ} {gh : Nat × Bs} (h : XG w T i b m gh) (ch : Int) : XG w T i b { m with changes := ch } gh := by
  obtain ⟨vL, ⟨h1, h2, h3, h4, h5, vB, mb, f, ps, h6, h7, h8, h9, h10⟩, hl, hd⟩ := h
  exact ⟨vL, ⟨h1, h2, h3, h4, fun g hg => ⟨(h5 g hg).done, (h5 g hg).tries, (h5 g hg).excl, (h5 g hg).dead⟩, vB, mb, f, ps, h6, h7, h8, fun k g hg => ⟨(h9 k g hg).1, ⟨(h9 k g hg).2.start, (h9 k g hg).2.set, (h9 k g hg).2.done, (h9 k g hg).2.dead, (h9 k g hg).2.tr, (h9 k g hg).2.wt⟩⟩, h10⟩, hl.same rfl rfl, hd⟩

end Go.Proofs.YtockkceclkcgbaaGreatDoor

/- Open of a log that was cut within its last record: the queue as it was ahead of that record. -/
namespace Go.Proofs.YtockkceclkcgbaaGreatDoor
open Go.RowKit

theorem xopenT_any (a0 a1 : Addr) (m : MQ) (gh : Nat × Bs) (t : Bs) (i : Nat) (hok : m.Ok) (hcalm : Calm (wakeM m 0)) (hl : LogIs m gh.2 gh.1) (hlw : LogIs (wakeM m 0) gh.2 gh.1) (hcw : coreM (wakeM m 0) = coreM m) (ht : t.length ≤ 1000000000000) (hop : ∀ q, Told m.c gh.2 q gh.1 → openT m.c t = some (q, gh.1, gh.2)) (w : World) (T : Nat → Tag) (hLd : Laid w T a0 a1) :
    Calls Tryz.prog 25 #[.agg m.c.cells, .string (mkB t)] w fun e w' => ∃ b, e = .returned (.tuple #[.pointer (some ⟨b, 0, none⟩), .int .i64 0]) ∧ ∃ T', Step (fun _ => False) w T w' T' ∧ XG w' T' i b (wakeM m 0) gh := by
  obtain ⟨j, hj⟩ := fresh_num T w.heap.size
  obtain ⟨co, hT, hS⟩ := hl.told
  have ho := hop co hT
  refine (open_any m.c (mkB t) j w T (fun w' T' b => ∃ vL, CO w' T' j b m.c co vL gh.1 gh.2) False (fun b mb w1 T1 hc hs1 hB hN => ?_)).mono ?_
  · have hr := restore_any m.c j b mb t a0 a1 w1 T1 hc hB hN (hLd.step hs1 (by simp [XT])) (fun _ => load_any j b m.c) ht
    rw [ho] at hr
    refine hr.mono ?_
    rintro e w2 ⟨T2, s2, rfl, hco⟩
    exact ⟨T2, s2, .inl ⟨rfl, hco⟩⟩
  · rintro e w2 (⟨h, _⟩ | ⟨hc, T2, s2, (⟨b, rfl, vL, hco⟩ | ⟨hF, _⟩)⟩)
    · rw [hok.good] at h; cases h
    · obtain ⟨σ, hx⟩ := co_x (i := i) (q := wakeM m 0) hco rfl (by rw [hcw]; exact hS) hcalm
      exact ⟨b, rfl, moveT j i σ T2, step_moved s2 hj, vL, hx, hlw, hcalm.lsd⟩
    · exact hF.elim
/-- the log, and a part of the record behind it -/
theorem xopenCut_any (a0 a1 : Addr) (m : MQ) (gh : Nat × Bs) (p r d : Bs) (k : UInt8) (i : Nat) (hok : m.Ok) (hcalm : Calm (wakeM m 0)) (hl : LogIs m gh.2 gh.1) (hlw : LogIs (wakeM m 0) gh.2 gh.1) (hcw : coreM (wakeM m 0) = coreM m) (hd : d.length < 256 ^ 3) (hk : mayCut k = true) (hp : p ++ r = recB gh.1 k d) (hr : r ≠ []) (w : World) (T : Nat → Tag) (hLd : Laid w T a0 a1) :
    Calls Tryz.prog 25 #[.agg m.c.cells, .string (mkB (gh.2 ++ p))] w fun e w' => ∃ b, e = .returned (.tuple #[.pointer (some ⟨b, 0, none⟩), .int .i64 0]) ∧ ∃ T', Step (fun _ => False) w T w' T' ∧ XG w' T' i b (wakeM m 0) gh := by
  have h1 := hl.len
  have h2 := congrArg List.length hp
  rw [List.length_append, recB_length] at h2
  exact xopenT_any a0 a1 m gh (gh.2 ++ p) i hok hcalm hl hlw hcw (by rw [List.length_append]; omega) (fun q hT => hT.cut hd hk hp hr) w T hLd

end Go.Proofs.YtockkceclkcgbaaGreatDoor

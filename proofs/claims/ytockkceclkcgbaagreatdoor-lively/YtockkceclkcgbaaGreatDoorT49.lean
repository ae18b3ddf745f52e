/- A queue that Open made of a text is the document's queue of which the text speaks, in whatever order its groups lie. -/
import Derived.Test.YtockkceclkcgbaaGreatDoorT48
import Derived.Test.YtockkceclkcgbaaGreatDoorT43
import Derived.Test.YtockkceclkcgbaaGreatDoorT44
import Derived.Test.YtockkceclkcgbaaGreatDoorT28
import Derived.Test.YtockkceclkcgbaaGreatDoorT45
import Derived.Stop.LaidErr
namespace Go.Proofs.YtockkceclkcgbaaGreatDoor
open Go.RowKit Go.Maps

/-! blocks that get another tag -/
theorem Blk.move {w : World} {T T' : Nat → Tag} {t t' : Tag} {b : Nat} {cs : Array Value} {e : TypeId} (h : Blk w T t b cs e) (hf : ∀ g, T g = t → T' g = t') : Blk w T' t' b cs e := ⟨hf b h.1, h.2⟩
theorem Row.move {w : World} {T T' : Nat → Tag} {t t' : Tag} {e : TypeId} {size : Nat} {v : Value} {n : Nat} {xs : List Value} (h : Row w T t e size v n xs) (hf : ∀ g, T g = t → T' g = t') : Row w T' t' e size v n xs := ⟨h.1, fun g hg => hf g (h.2 g hg)⟩
theorem Sub.move {w : World} {T T' : Nat → Tag} {t t' : Tag} {v : Value} {xs : List Value} (h : Sub w T t v xs) (hf : ∀ g, T g = t → T' g = t') : Sub w T' t' v xs := by
  obtain ⟨ao, cap, h1, h2, h3⟩ := h
  refine ⟨ao, cap, h1, h2, h3.imp id ?_⟩
  rintro ⟨g, off, cur, e, hT, rest⟩
  exact ⟨g, off, cur, e, hf g hT, rest⟩
theorem TM.move {w : World} {T T' : Nat → Tag} {t t' : Tag} {b : Nat} {f : Int → Int} (h : TM w T t b f) (hf : ∀ g, T g = t → T' g = t') : TM w T' t' b f := ⟨hf b h.1, h.2⟩
theorem WM.move {w : World} {T T' : Nat → Tag} {t t' : Tag} {b : Nat} {f : Int → Option (Int × Bool)} (h : WM w T t b f) (hf : ∀ g, T g = t → T' g = t') : WM w T' t' b f := ⟨hf b h.1, h.2⟩
theorem GM.move {w : World} {T T' : Nat → Tag} {i i' k k' gb : Nat} {p : PG} (h : GM w T i k gb p) (hf : ∀ r g, 3 ≤ r → T g = .q i r k → T' g = .q i' r k') : GM w T' i' k' gb p := by
  obtain ⟨vD, vE, tb, wb, h1, h2, h3, h4, h5⟩ := h
  exact ⟨vD, vE, tb, wb, h1.move (fun g => hf 3 g (by decide)), h2.move (fun g => hf 4 g (by decide)), h3.move (fun g => hf 5 g (by decide)), h4.move (fun g => hf 6 g (by decide)), h5.move (fun g => hf 7 g (by decide))⟩

/-- the blocks of queue j become those of queue i, its groups in another order -/
def moveT (j i : Nat) (σ : Nat → Nat) (T : Nat → Tag) : Nat → Tag := fun k => if (T k).c = 5 ∧ (T k).i = j then ⟨5, i, (T k).r, if 3 ≤ (T k).r then σ (T k).k else (T k).k⟩ else T k
theorem move_low {j i : Nat} {σ : Nat → Nat} {T : Nat → Tag} {r k : Nat} (hr : r < 3) (g : Nat) (h : T g = .q j r k) : moveT j i σ T g = .q i r k := by
  unfold moveT
  rw [h]
  simp [show ¬ 3 ≤ r by omega]
theorem move_grp {j i : Nat} {σ : Nat → Nat} {T : Nat → Tag} {r k : Nat} (hr : 3 ≤ r) (g : Nat) (h : T g = .q j r k) : moveT j i σ T g = .q i r (σ k) := by
  unfold moveT
  rw [h]
  simp [hr]
theorem move_old {j i : Nat} {σ : Nat → Nat} {T : Nat → Tag} {g : Nat} (h : ¬ XT j (T g)) : moveT j i σ T g = T g := by
  unfold moveT
  exact if_neg h
/-- a number that no block's tag bears -/
theorem fresh_num (T : Nat → Tag) : ∀ n : Nat, ∃ m : Nat, ∀ k, k < n → (T k).i < m
  | 0 => ⟨0, fun k hk => absurd hk (by omega)⟩
  | n + 1 => by
    obtain ⟨m, hm⟩ := fresh_num T n
    refine ⟨max m ((T n).i + 1), fun k hk => ?_⟩
    by_cases h : k = n
    · subst h; omega
    · have := hm k (by omega); omega

theorem idx_of {s : ByteArray} {l : List ByteArray} {k : Nat} (hn : l.Nodup) (h : l[k]? = some s) : idx s l = some k := by
  cases hi : idx s l with
  | none => exact absurd (List.mem_of_getElem? h) (idx_none.1 hi)
  | some j =>
    have h2 := idx_some hi
    rw [(List.getElem?_inj (List.getElem?_eq_some_iff.1 h2).1 hn).1 (h2.trans h.symm)]
theorem idx_perm {l l' : List ByteArray} (h : l.Perm l') (s : ByteArray) : (idx s l).isSome = (idx s l').isSome := by
  rw [Bool.eq_iff_iff, Option.isSome_iff_ne_none, Option.isSome_iff_ne_none, Ne, Ne, idx_none, idx_none, h.mem_iff]
theorem NM.perm {w : World} {T : Nat → Tag} {t : Tag} {b : Nat} {names names' : List ByteArray} {f : Nat → Nat} (h : NM w T t b names f) (hp : names.Perm names') (f' : Nat → Nat) (hf : ∀ s k k', idx s names = some k → idx s names' = some k' → f' k' = f k) : NM w T t b names' f' := by
  obtain ⟨h1, n, D, h2, h3, h4, h5⟩ := h
  refine ⟨h1, n, D, h2, h3.trans hp.length_eq, fun s => (h4 s).trans (idx_perm hp s), fun s k' hk' z => ?_⟩
  cases hi : idx s names with
  | none =>
    have := idx_perm hp s
    rw [hi, hk'] at this
    cases this
  | some k => rw [h5 s k hi z, hf s k k' hi hk']
theorem NM.move {w : World} {T T' : Nat → Tag} {t t' : Tag} {b : Nat} {names : List ByteArray} {f : Nat → Nat} (h : NM w T t b names f) (hf : ∀ g, T g = t → T' g = t') : NM w T' t' b names f := ⟨hf b h.1, h.2⟩

/-! the document's queue that is opened anew -/
/-- what must hold of a queue that a text speaks of -/
structure Calm (q : MQ) : Prop where
  time : q.time = 0
  small : q.bodies.length ≤ 400
  few : q.groups.length ≤ 6
  nodup : q.names.Nodup
  short : ∀ s ∈ q.names, s.size ≤ 16
  inv : ∀ g ∈ q.groups, InvG q g
  rel : ∀ g ∈ q.groups, RelG q g (coreG q g).pg
  lsd : Lsd q

theorem co_x {w : World} {T : Nat → Tag} {j i b : Nat} {c : Conf} {co : Core} {vL : Value} {ls : Nat} {lg : Bs} {q : MQ} (h : CO w T j b c co vL ls lg) (hc : q.c = c) (hs : Same co (coreM q)) (hq : Calm q) :
    ∃ σ, XM w (moveT j i σ T) i b q vL (.int .u32 ls) lg := by
  obtain ⟨h1, h2, vB, mb, f, hB, hS, hN, hG, hL⟩ := h
  have hpn : co.names.Perm q.names := by rw [← coreM_names]; exact hs.names
  have hfl : co.floor = q.floor := hs.floor
  have hbo : co.bodies = q.bodies.drop q.floor.toNat := hs.bodies
  refine ⟨fun k => (idx (co.names.getD k ⟨#[]⟩) q.names).getD 0, hq.small, hq.few, hq.nodup, hq.short, hq.inv, vB, mb, fun k => f ((idx (q.names.getD k ⟨#[]⟩) co.names).getD 0), fun k => match q.groups[k]? with | some g => (coreG q g).pg | none => newP 0, ?_, ?_, ?_, fun k g hg => ?_, ?_⟩
  · rw [hc, hq.time, ← hfl]
    exact hB.move (move_low (by decide))
  · rw [← hbo]
    exact hS.move (move_low (by decide))
  · refine (hN.perm hpn _ (fun s k k' hk hk' => ?_)).move (move_low (by decide))
    have e1 : q.names.getD k' ⟨#[]⟩ = s := by rw [List.getD_eq_getElem?_getD, idx_some hk']; rfl
    simp only [e1, hk, Option.getD_some]
  · have hgm := List.mem_of_getElem? hg
    have hmem : (g.name, coreG q g) ∈ co.gs := hs.gs.mem_iff.2 (List.mem_map.2 ⟨g, hgm, rfl⟩)
    obtain ⟨k0, hk0⟩ := List.getElem?_of_mem hmem
    have hn0 : co.names[k0]? = some g.name := by simp [Core.names, hk0]
    have hnk : q.names[k]? = some g.name := by simp [MQ.names, hg]
    have i0 := idx_of h2.once hn0
    have i1 := idx_of hq.nodup hnk
    have e1 : q.names.getD k ⟨#[]⟩ = g.name := by rw [List.getD_eq_getElem?_getD, hnk]; rfl
    have e0 : co.names.getD k0 ⟨#[]⟩ = g.name := by rw [List.getD_eq_getElem?_getD, hn0]; rfl
    have hg0 := hG k0 _ hk0
    simp only [hg, e1, i0, Option.getD_some]
    refine ⟨hg0.move (fun r b' hr hb => ?_), hq.rel g hgm⟩
    have := move_grp (j := j) (i := i) (σ := fun k => (idx (co.names.getD k ⟨#[]⟩) q.names).getD 0) hr b' hb
    rw [this]
    simp only [e0, i1, Option.getD_some]
  · exact hL.move (move_low (by decide))

/-! a queue behind a crash -/
theorem wakeI_tries (l : List It) (n : Int) : triesOf (itemAt (l.map wakeI) n) = triesOf (itemAt l n) ∧ waitOf 0 (itemAt (l.map wakeI) n) = none ∧ doneB (l.map wakeI) n = doneB l n := by
  have e : itemAt (l.map wakeI) n = (itemAt l n).map wakeI := by
    unfold itemAt
    cases decide (0 ≤ n) <;> simp
  rw [doneB_at, doneB_at, e]
  cases itemAt l n with
  | none => exact ⟨rfl, rfl, rfl⟩
  | some x =>
    refine ⟨rfl, ?_, rfl⟩
    simp [waitOf, wakeI]
theorem wake_rel {m : MQ} {g : MG} {p : PG} {ch : Int} (h : RelG m g p) : RelG (wakeM m ch) (wakeG g) (calmP p) := by
  refine ⟨h.start, h.set, fun n => (h.done n).trans (wakeI_tries g.items n).2.2.symm, h.dead.trans (List.map_congr_left (fun n _ => ?_)), fun n => (h.tr n).trans (wakeI_tries g.items n).1.symm, fun n => (wakeI_tries g.items n).2.1.symm⟩
  unfold deadOf
  simp only [wakeM, wakeG, List.getD_eq_getElem?_getD, List.getElem?_map]
  cases g.items[n]? <;> rfl
theorem wake_inv {m : MQ} {g : MG} {ch : Int} (h : InvG m g) : InvG (wakeM m ch) (wakeG g) := by
  have key : ∀ x ∈ (wakeG g).items, ∃ y ∈ g.items, x = wakeI y := fun x hx => by
    obtain ⟨y, hy, rfl⟩ := List.mem_map.1 hx
    exact ⟨y, hy, rfl⟩
  refine ⟨fun x hx => ?_, fun x hx => ?_, fun x hx hlt => ?_, fun n hn => ?_⟩
  · obtain ⟨y, hy, rfl⟩ := key x hx; exact h.done y hy
  · obtain ⟨y, hy, rfl⟩ := key x hx; exact h.tries y hy
  · obtain ⟨y, hy, rfl⟩ := key x hx; exact absurd hlt (by simp [wakeM, wakeI])
  · rw [show (wakeG g).items = g.items.map wakeI from rfl, (wakeI_tries g.items n).2.2]; exact h.dead n hn
theorem wake_core {m : MQ} {ch : Int} (hr : Rels m) (hok : m.Ok) (hsm : m.bodies.length ≤ 400) : coreM (wakeM m ch) = coreM m ∧ ∀ g ∈ m.groups, coreG (wakeM m ch) (wakeG g) = coreG m g := by
  have key : ∀ g ∈ m.groups, coreG (wakeM m ch) (wakeG g) = coreG m g := fun g hg => by
    obtain ⟨hi, p, hp⟩ := hr g hg
    rw [← rel_core hp hi.done (small_items hok hsm hg), ← rel_core (wake_rel (ch := ch) hp) (wake_inv (ch := ch) hi).done (by show (g.items.map wakeI).length ≤ _; rw [List.length_map]; exact small_items hok hsm hg)]
    rfl
  refine ⟨coreM_same rfl rfl wakeM_glen (fun k g g' h1 h2 => ?_), key⟩
  rw [wakeM_group, h1] at h2
  cases h2
  exact ⟨rfl, key g (List.mem_of_getElem? h1)⟩
theorem calm_wake {w : World} {T : Nat → Tag} {i b : Nat} {m : MQ} {vL vS : Value} {lg : Bs} {ch : Int} (h : XM w T i b m vL vS lg) (hok : m.Ok) : Calm (wakeM m ch) := by
  have hr := h.rels
  have hc := (wake_core (ch := ch) hr hok h.small).2
  have hnm : (wakeM m ch).names = m.names := by simp [MQ.names, wakeM, wakeG, Function.comp_def]
  have key : ∀ g ∈ (wakeM m ch).groups, ∃ g0 ∈ m.groups, g = wakeG g0 := fun g hg => by
    obtain ⟨g0, h0, rfl⟩ := List.mem_map.1 hg
    exact ⟨g0, h0, rfl⟩
  refine ⟨rfl, h.small, by rw [wakeM_glen]; exact h.few, by rw [hnm]; exact h.nodup, by rw [hnm]; exact h.short, fun g hg => ?_, fun g hg => ?_, fun g hg x hx hlt => ?_⟩
  · obtain ⟨g0, h0, rfl⟩ := key g hg
    exact wake_inv (hr g0 h0).1
  · obtain ⟨g0, h0, rfl⟩ := key g hg
    obtain ⟨hi, p, hp⟩ := hr g0 h0
    rw [hc g0 h0, ← rel_core hp hi.done (small_items hok h.small h0)]
    exact wake_rel hp
  · obtain ⟨g0, h0, rfl⟩ := key g hg
    obtain ⟨y, hy, rfl⟩ := List.mem_map.1 hx
    exact absurd hlt (by simp [wakeM, wakeI])

/-- The text speaks of the queue q, of the configuration c. -/
structure Dec (c : Conf) (s : ByteArray) (q : MQ) : Prop where
  conf : q.c = c
  good : goodC c = true
  size : s.data.toList.length ≤ 1000000000000
  plain : s.data.toList.head? ≠ some 99
  calm : Calm q
  told : ∃ co su lg, openT c s.data.toList = some (co, su, lg) ∧ Same co (coreM q) ∧ LogIs q lg su

theorem dec_log {w : World} {T : Nat → Tag} {i b : Nat} {m : MQ} {vL : Value} {su : Nat} {lg : Bs} {ch : Int} (h : XM w T i b m vL (.int .u32 su) lg) (hl : LogIs m lg su) (hok : m.Ok) : Dec m.c (mkB lg) (wakeM m ch) := by
  have hc := (wake_core (ch := ch) h.rels hok h.small).1
  obtain ⟨q, hT, hS⟩ := hl.told
  refine ⟨rfl, hok.good, by rw [mkB_list]; have := hl.len; omega, by rw [mkB_list]; exact hl.plain, calm_wake h hok, q, su, lg, ?_, ?_, hl.same rfl hc⟩
  · rw [mkB_list]; exact hT.whole
  · rw [hc]; exact hS

theorem step_moved {w w' : World} {T T' : Nat → Tag} {j i : Nat} {σ : Nat → Nat} (h : Step (XT j) w T w' T') (hj : ∀ k, k < w.heap.size → (T k).i < j) : Step (fun _ => False) w T w' (moveT j i σ T') := by
  have hn : ∀ k, k < w.heap.size → ¬ XT j (T k) := fun k hk hx => by
    have := hj k hk
    have := hx.2
    omega
  exact ⟨h.os, h.tape, h.output, h.size, fun k hk => by rw [move_old (by rw [h.tag k hk]; exact hn k hk), h.tag k hk], fun k hk _ => h.block k hk (hn k hk)⟩

theorem xopenD_any (a0 a1 : Addr) (c : Conf) (s : ByteArray) (q : MQ) (i : Nat) (w : World) (T : Nat → Tag) (hLd : Laid w T a0 a1) (hd : Dec c s q) :
    Calls Tryz.prog 25 #[.agg c.cells, .string s] w fun e w' => ∃ b, e = .returned (.tuple #[.pointer (some ⟨b, 0, none⟩), .int .i64 0]) ∧ ∃ T', Step (fun _ => False) w T w' T' ∧ X w' T' i b q := by
  obtain ⟨j, hj⟩ := fresh_num T w.heap.size
  obtain ⟨co, su, lg, ho, hs, hl⟩ := hd.told
  have hmk : mkB s.data.toList = s := mkB_data s
  refine (open_any c s j w T (fun w' T' b => ∃ vL, CO w' T' j b c co vL su lg) False (fun b mb w1 T1 hc hs1 hB hN => ?_)).mono ?_
  · have hr := restore_any c j b mb s.data.toList a0 a1 w1 T1 hc hB hN (hLd.step hs1 (by simp [XT])) (fun h => absurd h hd.plain) hd.size
    rw [hmk, ho] at hr
    refine hr.mono ?_
    rintro e w2 ⟨T2, s2, rfl, hco⟩
    exact ⟨T2, s2, .inl ⟨rfl, hco⟩⟩
  · rintro e w2 (⟨h, _⟩ | ⟨hc, T2, s2, (⟨b, rfl, vL, hco⟩ | ⟨hF, _⟩)⟩)
    · rw [hd.good] at h; cases h
    · obtain ⟨σ, hx⟩ := co_x (i := i) hco hd.conf hs hd.calm
      exact ⟨b, rfl, moveT j i σ T2, step_moved s2 hj, vL, su, lg, hx, hl, hd.calm.lsd⟩
    · exact hF.elim

/-- a run can crash -/
theorem xd (a0 a1 : Addr) (B : Int) (hB : B ≤ 3999999999999940000) : XD X Dec (fun w T => Laid w T a0 a1) B where
  xc := xc B hB
  log := fun i b m w T hx hf => by
    obtain ⟨vL, s, lg, hx, h2, h3⟩ := hx
    refine (xlog_any i b m w T hx).mono ?_
    rintro e w1 ⟨rfl, rfl⟩
    exact ⟨_, rfl, 0, T, dec_log hx h2 hf.ok, Step.refl _ _ _, vL, s, lg, hx, h2, h3⟩
  ld := fun h hs hS => h.step hs hS
  opn := fun c s q i w T hLd hd => xopenD_any a0 a1 c s q i w T hLd hd

end Go.Proofs.YtockkceclkcgbaaGreatDoor

/- Right and Kept, walked: they return true and change nothing that was there. -/
namespace Go.Proofs.YtockkceclkcgbaaGreatDoor
open Go.RowKit

set_option maxRecDepth 100000 in
set_option maxHeartbeats 1000000 in
theorem kright_any (a0 a1 : Addr) (l : List Int) (s : List StV) (ao so : Option Addr) (cap scap : Nat) (w : World) (hl : ArgI w ao l) (hs : ArgS w so s) (hlen : l.length ≤ 9223372036854775807) (hsl : s.length ≤ 4398046511104) (hLd : Laid w (fun _ => .old) a0 a1) :
    Calls Tryz.prog 6 #[.slice ao l.length cap, .slice so s.length scap] w fun e w' => e = .returned (.bool true) ∧ Below w.heap.size w w' := by
  go_enter Tryz.func6, Tryz.ntmps6
  go_wp2_with fail
  refine (played_any (xd a0 a1 3000000000000000000 (by decide)) 0 l s ao so cap scap w (fun _ => .old) hl hs (fun _ _ => rfl) hlen hsl hLd).mono ?_
  rintro e w1 ⟨b, rfl, T1, m, L, s1, p1⟩
  obtain ⟨c9, c10, c11, lb⟩ := p1.flags
  have hb := below_old s1
  clear p1 s1 hLd hl hs
  go_wp2
  go_ret
  exact ⟨rfl, hb⟩

set_option maxRecDepth 100000 in
set_option maxHeartbeats 1000000 in
theorem kkept_any (a0 a1 : Addr) (l : List Int) (s : List StV) (ao so : Option Addr) (cap scap : Nat) (w : World) (hl : ArgI w ao l) (hs : ArgS w so s) (hlen : l.length ≤ 9223372036854775807) (hsl : s.length ≤ 4398046511104) (hLd : Laid w (fun _ => .old) a0 a1) :
    Calls Tryz.prog 7 #[.slice ao l.length cap, .slice so s.length scap] w fun e w' => e = .returned (.bool true) ∧ Below w.heap.size w w' := by
  go_enter Tryz.func7, Tryz.ntmps7
  go_wp2_with fail
  refine (played_any (xd a0 a1 3000000000000000000 (by decide)) 0 l s ao so cap scap w (fun _ => .old) hl hs (fun _ _ => rfl) hlen hsl hLd).mono ?_
  rintro e w1 ⟨b, rfl, T1, m, L, s1, p1⟩
  obtain ⟨c9, c10, c11, lb⟩ := p1.flags
  have hb := below_old s1
  clear p1 s1 hLd hl hs
  go_wp2
  go_ret
  exact ⟨rfl, hb⟩

end Go.Proofs.YtockkceclkcgbaaGreatDoor

/- Where the two errors of package quay lie when a call begins. -/
namespace Go.Proofs.YtockkceclkcgbaaGreatDoor
open Go.RowKit Go.Extern.Stop Go.Stop Go.Extern

theorem Tryz.gCut : Tryz.prog.globalNamed "quay/quay.errCut" = some 0 := by kernel_rfl
theorem Tryz.gWrong : Tryz.prog.globalNamed "quay/quay.errWrong" = some 1 := by kernel_rfl
theorem Tryz.gCutType : (Tryz.prog.globals[0]?).map (·.type) = some 126 := by kernel_rfl
theorem Tryz.gWrongType : (Tryz.prog.globals[1]?).map (·.type) = some 126 := by kernel_rfl
theorem Tryz.cellsEs : Tryz.prog.cellsOf 279 = 1 := by kernel_rfl
theorem Tryz.cellsSt : Tryz.prog.cellsOf 9 = 1 := by kernel_rfl
theorem Tryz.starEs : "*" ++ "errors.errorString" = "*errors.errorString" := by decide
theorem Tryz.rowEs (u : TypeId) (h : Tryz.prog.typeName? 3 u = some "*errors.errorString") : u = 257 :=
  typeName_ptr_named (nm := "errors.errorString") (by rw [Tryz.starEs]; kernel_rfl) (by kernel_rfl) (by decide) u (by rw [Tryz.starEs]; exact h)

theorem laid_open {W : World} (h : laidMetH Tryz.prog laidL W) : ∃ a0 a1, Laid W (fun _ => .old) a0 a1 := by
  have hL : laidMet Tryz.prog laidL W := h
  obtain ⟨a0, a1, s0, s1, c0, c1, t0, t1, hv0, hv1, hc0, hs0, hz0, hc1, hs1, hz1, hne, hb0, hb1⟩ := laid_sentinels2 hL Tryz.gCut Tryz.gCutType Tryz.gWrong Tryz.gWrongType Tryz.underlying126 Tryz.rowEs Tryz.underlying257 Tryz.underlying279 rfl rfl Tryz.underlying9 Tryz.cellsEs Tryz.cellsSt
  have hg0 : W.cell? ⟨0, 0, none⟩ = some (.iface 257 (.pointer (some a0))) := by simpa using World.var?_cell Tryz.gCut hv0 0
  have hg1 : W.cell? ⟨1, 0, none⟩ = some (.iface 257 (.pointer (some a1))) := by simpa using World.var?_cell Tryz.gWrong hv1 0
  have hl : ∀ g v, W.cell? ⟨g, 0, none⟩ = some v → g < W.heap.size := fun g v hc => by
    unfold World.cell? at hc
    rcases Nat.lt_or_ge g W.heap.size with hlt | hge
    · exact hlt
    · simp [Array.getElem?_eq_none hge] at hc
  exact ⟨a0, a1, ⟨hg0, rfl, hl _ _ hg0, ⟨c0, t0, hb0⟩, rfl⟩, ⟨hg1, rfl, hl _ _ hg1, ⟨c1, t1, hb1⟩, rfl⟩, hne⟩

end Go.Proofs.YtockkceclkcgbaaGreatDoor

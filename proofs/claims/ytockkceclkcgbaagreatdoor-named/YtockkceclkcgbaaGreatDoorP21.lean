/- Named, walked: it returns true and changes nothing that was there. -/
import Derived.Test.YtockkceclkcgbaaGreatDoorP10
import Derived.Test.YtockkceclkcgbaaGreatDoorP12
import Derived.Test.YtockkceclkcgbaaGreatDoorP20
namespace Go.Proofs.YtockkceclkcgbaaGreatDoor
open Go.RowKit

theorem ArgS.below {w w' : World} {ao : Option Addr} {l : List StV} (h : ArgS w ao l) (hb : Below w.heap.size w w') : ArgS w' ao l := by
  intro k o hk
  obtain ⟨h1, h2, h3, b, off, rfl, hlt, hc⟩ := h k o hk
  exact ⟨h1, h2, h3, b, off, rfl, Nat.lt_of_lt_of_le hlt hb.size, fun j v hj => (hb.cell (p := ⟨b, off + k * 4 + j, none⟩) hlt).trans (hc j v hj)⟩
theorem ArgS.old {w w' : World} {S : Tag → Prop} {T' : Nat → Tag} {ao : Option Addr} {l : List StV} (h : ArgS w ao l) (hs : Step S w (fun _ => .old) w' T') : ∀ (k : Nat) (o : StV), l[k]? = some o → ∀ a, ao = some a → T' a.block = .old := by
  intro k o hk a ha
  obtain ⟨_, _, _, b, off, rfl, hlt, _⟩ := h k o hk
  cases ha
  exact hs.tag b hlt
theorem below_all {w w' : World} {T' : Nat → Tag} (h : Step (fun t => t ≠ Tag.old) w (fun _ => .old) w' T') : Below w.heap.size w w' := ⟨h.os, h.tape, h.output, h.size, fun k hk => h.block k hk (fun h => h rfl)⟩

/-- three runs, as Named looks at them -/
structure NR (w : World) (T : Nat → Tag) (ba bb bc bxa bxb bxc : Nat) (ma mb mc : MQ) (ka kb kc : Nat × Bs) (K Kc : Nat) (ga : Option Addr) (gca : Nat) (gc : Option Addr) (gcc : Nat) : Prop where
  xa : XG w T 0 bxa ma ka
  xb : XG w T 1 bxb mb kb
  xc : XG w T 2 bxc mc kc
  ca0 : w.cell? ⟨ba, 0, none⟩ = some (.pointer (some ⟨bxa, 0, none⟩))
  cb0 : w.cell? ⟨bb, 0, none⟩ = some (.pointer (some ⟨bxb, 0, none⟩))
  cc0 : w.cell? ⟨bc, 0, none⟩ = some (.pointer (some ⟨bxc, 0, none⟩))
  ca7 : w.cell? ⟨ba, 7, none⟩ = some (.slice ga K gca)
  cc7 : w.cell? ⟨bc, 7, none⟩ = some (.slice gc Kc gcc)
  la : ba < w.heap.size
  lb : bb < w.heap.size
  lc : bc < w.heap.size
  ta : (T ba).c ≠ 5
  tb : (T bb).c ≠ 5
  tc : (T bc).c ≠ 5
section
variable {w w' : World} {T T' : Nat → Tag} {ba bb bc bxa bxb bxc : Nat} {ma mb mc : MQ} {ka kb kc : Nat × Bs} {K Kc : Nat} {ga gc : Option Addr} {gca gcc : Nat}
theorem NR.cells {S : Tag → Prop} {ka' kb' kc' : Nat × Bs} (h : NR w T ba bb bc bxa bxb bxc ma mb mc ka kb kc K Kc ga gca gc gcc) (hs : Step S w T w' T') (hS : ∀ t, S t → t.c = 5) (xa : XG w' T' 0 bxa ma ka') (xb : XG w' T' 1 bxb mb kb') (xc : XG w' T' 2 bxc mc kc') : NR w' T' ba bb bc bxa bxb bxc ma mb mc ka' kb' kc' K Kc ga gca gc gcc := by
  have na : ¬ S (T ba) := fun e => h.ta (hS _ e)
  have nb : ¬ S (T bb) := fun e => h.tb (hS _ e)
  have nc : ¬ S (T bc) := fun e => h.tc (hS _ e)
  exact ⟨xa, xb, xc, (hs.cell (p := ⟨ba, 0, none⟩) h.la na).trans h.ca0, (hs.cell (p := ⟨bb, 0, none⟩) h.lb nb).trans h.cb0, (hs.cell (p := ⟨bc, 0, none⟩) h.lc nc).trans h.cc0, (hs.cell (p := ⟨ba, 7, none⟩) h.la na).trans h.ca7, (hs.cell (p := ⟨bc, 7, none⟩) h.lc nc).trans h.cc7, Nat.lt_of_lt_of_le h.la hs.size, Nat.lt_of_lt_of_le h.lb hs.size, Nat.lt_of_lt_of_le h.lc hs.size, by rw [hs.tag _ h.la]; exact h.ta, by rw [hs.tag _ h.lb]; exact h.tb, by rw [hs.tag _ h.lc]; exact h.tc⟩
end
theorem xt_ne {i j : Nat} (h : i ≠ j) (t : Tag) (h1 : XT i t) : ¬ XT j t := fun h2 => h (h1.2.symm.trans h2.2)
/-- a Compact, of a queue whose log is shown -/
theorem xcompG_any (i b : Nat) (m : MQ) (gh : Nat × Bs) (w : World) (T : Nat → Tag) (h : XG w T i b m gh) (hok : m.Ok) :
    Calls Tryz.prog 27 #[.pointer (some ⟨b, 0, none⟩)] w fun e w' => e = .returned (.tuple #[]) ∧ ∃ T', Step (XT i) w T w' T' ∧ XG w' T' i b m (compS m.c (coreM m), compL m.c (coreM m)) := by
  obtain ⟨vL, hx, h2, h3⟩ := h
  refine (xcompact_any i b m vL _ _ w T hx hok h2.ok).mono ?_
  rintro e w' ⟨rfl, T', vL', s', hx'⟩
  exact ⟨rfl, T', s', vL', hx', log_compact h2.ok, h3⟩
theorem xlogG_any (i b : Nat) (m : MQ) (gh : Nat × Bs) (w : World) (T : Nat → Tag) (h : XG w T i b m gh) :
    Calls Tryz.prog 26 #[.pointer (some ⟨b, 0, none⟩)] w fun e w' => e = .returned (.string (mkB gh.2)) ∧ w' = w := by
  obtain ⟨vL, hx, h2, h3⟩ := h
  exact xlog_any i b m w T hx
/-- logs that are the same, of queues of one configuration: alike -/
theorem xg_same {w w' : World} {T T' : Nat → Tag} {i j b b' : Nat} {m m' : MQ} {k k' : Nat × Bs} {K : Nat} (h : XG w T i b m k) (h' : XG w' T' j b' m' k') (hc : m.c = m'.c) (hok : m.Ok) (hok' : m'.Ok) (hk : k.2 = k'.2) : m.groups.length = m'.groups.length ∧ Tells m m' K := by
  obtain ⟨vL, hx, h2, h3⟩ := h
  obtain ⟨vL', hx', h2', h3'⟩ := h'
  rw [hk] at h2
  exact tells_same (log_same hc h2 h2') hx'.nodup hok hok'

theorem xg_comp {w w' : World} {T T' : Nat → Tag} {i j b b' : Nat} {m m' : MQ} {k k' : Nat × Bs} {K : Nat} (h : XG w T i b m k) (h' : XG w' T' j b' m' k') (hc : m.c = m'.c) (hok : m.Ok) (hok' : m'.Ok) (hk : compL m.c (coreM m) = compL m'.c (coreM m')) : m.groups.length = m'.groups.length ∧ Tells m m' K := by
  obtain ⟨vL, hx, h2, h3⟩ := h
  obtain ⟨vL', hx', h2', h3'⟩ := h'
  have e2 := log_compact h2.ok
  rw [hk] at e2
  exact tells_same (log_same hc e2 (log_compact h2'.ok)) hx'.nodup hok hok'
theorem str_ne {a b : Bs} (h : a ≠ b) : ((mkB a).toList == (mkB b).toList) = false := by
  rw [strEq]
  exact decide_eq_false (fun e => h (by rw [← mkB_list a, ← mkB_list b, e]))
theorem str_eq (a : Bs) : ((mkB a).toList == (mkB a).toList) = true := by
  rw [strEq]
  exact decide_eq_true rfl
theorem sx_five {i j : Nat} {t : Tag} (h : SX i j t) : t.c = 5 := by rcases h with h | h <;> exact h.1
theorem five_old {t : Tag} (h : t.c = 5) : t ≠ Tag.old := by rintro rfl; simp at h

/-- alike, of the first and the last of three runs -/
theorem nalike_any {w : World} {T : Nat → Tag} {ba bb bc bxa bxb bxc : Nat} {ma mb mc : MQ} {ka kb kc : Nat × Bs} {ga gc : Option Addr} {gca gcc : Nat} {Bm : Int} (hX : XL XG FG Bm) (h : NR w T ba bb bc bxa bxb bxc ma mb mc ka kb kc ma.groups.length mc.groups.length ga gca gc gcc) (few : ma.groups.length ≤ 6) (fewc : mc.groups.length ≤ 6) (hfa : ma.Fit Bm) (hfc : mc.Fit Bm) (hcc : ma.c = mc.c)
    (lna : ∀ s, (doneL ma s).length ≤ 100000 ∧ (deadL ma s).length ≤ 100000) (lnc : ∀ s, (doneL mc s).length ≤ 100000 ∧ (deadL mc s).length ≤ 100000) :
    Calls Tryz.prog 36 #[.pointer (some ⟨ba, 0, none⟩), .pointer (some ⟨bc, 0, none⟩)] w fun e w' => ∃ r : Bool, e = .returned (.bool r) ∧ (r = true ∨ (ka.2 ≠ kc.2 ∧ compL ma.c (coreM ma) ≠ compL mc.c (coreM mc))) ∧
      ∃ T', Step (SX 0 2) w T w' T' ∧ NR w' T' ba bb bc bxa bxb bxc ma mb mc ka kb kc ma.groups.length mc.groups.length ga gca gc gcc := by
  have hQ := hX.asked (fun | 0 => ka | _ => kc)
  have nta : ¬ SX 0 2 (T ba) := fun e => h.ta (sx_five e)
  have ntc : ¬ SX 0 2 (T bc) := fun e => h.tc (sx_five e)
  have fin : ∀ {w' : World} {T' : Nat → Tag}, Step (SX 0 2) w T w' T' → XG w' T' 0 bxa ma ka → XG w' T' 2 bxc mc kc → NR w' T' ba bb bc bxa bxb bxc ma mb mc ka kb kc ma.groups.length mc.groups.length ga gca gc gcc := fun hs xa xc =>
    h.cells hs (fun _ e => sx_five e) xa (hX.step h.xb hs (fun t e => by rintro (e2 | e2) <;> exact absurd (e.2.symm.trans e2.2) (by decide))) xc
  by_cases hT : ma.groups.length = mc.groups.length ∧ Tells ma mc ma.groups.length
  · refine (alike_any hQ (ia := 0) (ib := 2) (by decide) few hfa hfc hT.2 ⟨h.xa, h.xc, h.ca0, h.ca7, h.cc0, by rw [hT.1]; exact h.cc7, h.la, h.lc, nta, ntc⟩ (fun k _ => lna _)).mono ?_
    rintro e w' ⟨rfl, T', s', A⟩
    exact ⟨true, rfl, .inl rfl, T', s', fin s' A.xa A.xb⟩
  · refine (alike_some hQ (ia := 0) (ib := 2) (by decide) few fewc hfa hfc ⟨h.xa, h.xc, h.ca0, h.ca7, h.cc0, h.cc7, h.la, h.lc, nta, ntc⟩ (fun k _ => ⟨(lna _).1, (lna _).2, (lnc _).1, (lnc _).2⟩)).mono ?_
    rintro e w' ⟨r, rfl, T', s', A⟩
    exact ⟨r, rfl, .inr ⟨fun e => hT (xg_same h.xa h.xc hcc hfa.ok hfc.ok e), fun e => hT (xg_comp h.xa h.xc hcc hfa.ok hfc.ok e)⟩, T', s', fin s' A.xa A.xb⟩

attribute [local go_sem] over_cell

set_option maxRecDepth 100000 in
set_option maxHeartbeats 16000000 in
theorem knamed_any (a0 a1 : Addr) (l : List Int) (s t : List StV) (ao so tp : Option Addr) (cap scap tcap : Nat) (w : World) (hl : ArgI w ao l) (hs : ArgS w so s) (ht : ArgS w tp t) (hlen : l.length ≤ 9223372036854775807) (hsl : s.length ≤ 4398046511104) (htl : t.length ≤ 4398046511104) (hLd : Laid w (fun _ => .old) a0 a1) :
    Calls Tryz.prog 11 #[.slice ao l.length cap, .slice so s.length scap, .slice tp t.length tcap] w fun e w' => e = .returned (.bool true) ∧ Below w.heap.size w w' := by
  have hE := xe a0 a1 3000000000000000000 (by decide)
  have hX := hE.xl
  have hp1 := played_any hE 0 l s ao so cap scap w (fun _ => .old) hl hs (fun _ _ _ _ _ => rfl) hlen hsl hLd
  go_enter Tryz.func11, Tryz.ntmps11
  go_wp2_with fail
  refine hp1.mono ?_
  clear hp1
  rintro e w1 ⟨ba, rfl, T1, ma, La, ka, s1, ⟨pa, _, _, mca⟩, ea⟩
  have f1 : Step (fun t => t ≠ Tag.old) w (fun _ => .old) w1 T1 := s1.mono (fun _ h => ut_old h)
  have hp2 := played_any hE 1 l s ao so cap scap w1 T1 (hl.below (below_all f1)) (hs.below (below_all f1)) (hs.old f1) hlen hsl (hLd.step f1 (fun h => h rfl))
  go_wp2_with fail
  refine hp2.mono ?_
  clear hp2
  rintro e w2 ⟨bb, rfl, T2, mb, Lb, kb, s2, ⟨pb, _, _, mcb⟩, eb⟩
  have f2 := f1.trans (s2.mono (fun _ h => ut_old h))
  have pa2 := pa.step hX s2 (ut_ne (by decide))
  have hp3 := played_any hE 2 l t ao tp cap tcap w2 T2 (hl.below (below_all f2)) (ht.below (below_all f2)) (ht.old f2) hlen htl (hLd.step f2 (fun h => h rfl))
  clear pa s1 s2 f1
  go_wp2_with fail
  refine hp3.mono ?_
  clear hp3
  rintro e w3 ⟨bc, rfl, T3, mc, Lc, kc, s3, ⟨pc, _, _, mcc⟩, ec⟩
  have f3 := f2.trans (s3.mono (fun _ h => ut_old h))
  have pa3 := pa2.step hX s3 (ut_ne (by decide))
  have pb3 := pb.step hX s3 (ut_ne (by decide))
  clear pa2 pb f2 s3 hl hs ht hLd
  rw [← ea] at eb
  simp only [Prod.mk.injEq] at eb
  obtain ⟨rfl, -, rfl⟩ := eb
  obtain ⟨bxa, gba, gca, xa, ra, fa, qa, posa⟩ := pa3
  obtain ⟨bxb, gbb, gcb, xb, rb, fb, qb, posb⟩ := pb3
  obtain ⟨bxc, gbc, gcc, xc, rc, fc, qc, posc⟩ := pc
  obtain ⟨g0, hg0⟩ : ∃ g, mb.groups[0]? = some g := ⟨_, List.getElem?_eq_getElem posb⟩
  obtain ⟨g2, hg2⟩ : ∃ g, mc.groups[0]? = some g := ⟨_, List.getElem?_eq_getElem posc⟩
  obtain ⟨_, _, _, _, _, _, Aa⟩ := ra.at hg0
  obtain ⟨_, _, _, _, _, _, Ab⟩ := rb.at hg0
  obtain ⟨_, _, _, _, _, _, Ac⟩ := rc.at hg2
  have N3 : NR w3 T3 ba bb bc bxa bxb bxc mb mb mc kb kb kc mb.groups.length mc.groups.length (some ⟨gba, 0, none⟩) gca (some ⟨gbc, 0, none⟩) gcc := ⟨xa, xb, xc, Aa.c0, Ab.c0, Ac.c0, Aa.c7, Ac.c7, Aa.lb, Ab.lb, Ac.lb, by rw [Aa.tb]; decide, by rw [Ab.tb]; decide, by rw [Ac.tb]; decide⟩
  have few := ra.few
  have fewc := rc.few
  have lna := fun s => told_len2 mb s fa ra.small
  have lnc := fun s => told_len2 mc s fc rc.small
  have hcc : mb.c = mc.c := mcb.trans mcc.symm
  have hfa : mb.Fit 3000000000000000000 := fa.mono (by omega)
  have hfc : mc.Fit 3000000000000000000 := fc.mono (by omega)
  have oka := fa.ok
  have okc := fc.ok
  clear xa xb xc ra rb rc fa fb fc qa qb qc posa posb posc hg0 hg2 Aa Ab Ac ea ec mca mcb mcc
  have k1 := N3.ca0
  have k2 := N3.cb0
  have k3 := N3.cc0
  have l1 := N3.la
  have l2 := N3.lb
  have l3 := N3.lc
  go_wp2_with fail
  refine (xlogG_any 0 bxa mb kb w3 T3 N3.xa).mono ?_
  rintro e w4 ⟨rfl, rfl⟩
  go_wp2_with fail
  refine (xlogG_any 1 bxb mb kb w4 T3 N3.xb).mono ?_
  rintro e w5 ⟨rfl, rfl⟩
  go_wp2_with fail
  refine (xlogG_any 2 bxc mc kc w5 T3 N3.xc).mono ?_
  rintro e w6 ⟨rfl, rfl⟩
  have hal := nalike_any hX N3 few fewc hfa hfc hcc lna lnc
  clear N3 few fewc hfa hfc lna lnc k1 k2 k3 l1 l2 l3
  go_wp2_with fail
  refine hal.mono ?_
  clear hal
  rintro e w7 ⟨r, rfl, hr, T7, s7, N7⟩
  have f7 := f3.trans (s7.mono (fun _ h => five_old (sx_five h)))
  have st1 := str_eq kb.2
  have k1 := N7.ca0
  have l1 := N7.la
  clear f3 s7
  cases r with
  | true =>
    go_wp2_with fail
    refine (xcompG_any 0 bxa mb kb w7 T7 N7.xa oka).mono ?_
    rintro e w8 ⟨rfl, T8, s8, x8⟩
    have N8 := N7.cells s8 (fun _ e => e.1) x8 (hX.step N7.xb s8 (xt_ne (by decide))) (hX.step N7.xc s8 (xt_ne (by decide)))
    have f8 := f7.trans (s8.mono (fun _ h => five_old h.1))
    have k2 := N8.cb0
    have l2 := N8.lb
    clear N7 f7 s8 x8
    go_wp2_with fail
    refine (xcompG_any 1 bxb mb kb w8 T8 N8.xb oka).mono ?_
    rintro e w9 ⟨rfl, T9, s9, x9⟩
    have N9 := N8.cells s9 (fun _ e => e.1) (hX.step N8.xa s9 (xt_ne (by decide))) x9 (hX.step N8.xc s9 (xt_ne (by decide)))
    have f9 := f8.trans (s9.mono (fun _ h => five_old h.1))
    have k3 := N9.cc0
    have l3 := N9.lc
    clear N8 f8 s9 x9 k2 l2
    go_wp2_with fail
    refine (xcompG_any 2 bxc mc kc w9 T9 N9.xc okc).mono ?_
    rintro e w10 ⟨rfl, T10, s10, x10⟩
    have N10 := N9.cells s10 (fun _ e => e.1) (hX.step N9.xa s10 (xt_ne (by decide))) (hX.step N9.xb s10 (xt_ne (by decide))) x10
    have f10 := f9.trans (s10.mono (fun _ h => five_old h.1))
    clear N9 f9 s10 x10 k3 l3
    have k1 := N10.ca0
    have k2 := N10.cb0
    have k3 := N10.cc0
    have l1 := N10.la
    have l2 := N10.lb
    have l3 := N10.lc
    have hlg1 := xlogG_any 0 bxa mb _ w10 T10 N10.xa
    have hlg2 := xlogG_any 1 bxb mb _ w10 T10 N10.xb
    have hlg3 := xlogG_any 2 bxc mc _ w10 T10 N10.xc
    have hbf := below_all f10
    clear N10 f10
    simp only at hlg1 hlg2 hlg3
    have st := str_eq (compL mb.c (coreM mb))
    generalize compL mb.c (coreM mb) = c1 at *
    generalize compL mc.c (coreM mc) = c2 at *
    go_wp2_with fail
    refine hlg1.mono ?_
    rintro e w11 ⟨rfl, rfl⟩
    go_wp2_with fail
    refine hlg2.mono ?_
    rintro e w12 ⟨rfl, rfl⟩
    go_wp2_with fail
    refine hlg3.mono ?_
    rintro e w13 ⟨rfl, rfl⟩
    go_wp2
    go_ret
    exact ⟨rfl, hbf⟩
  | false =>
    obtain ⟨n1, n2⟩ : kb.2 ≠ kc.2 ∧ compL mb.c (coreM mb) ≠ compL mc.c (coreM mc) := by
      rcases hr with h | h
      · cases h
      · exact h
    have st2 := str_ne n1
    go_wp2_with fail
    refine (xcompG_any 0 bxa mb kb w7 T7 N7.xa oka).mono ?_
    rintro e w8 ⟨rfl, T8, s8, x8⟩
    have N8 := N7.cells s8 (fun _ e => e.1) x8 (hX.step N7.xb s8 (xt_ne (by decide))) (hX.step N7.xc s8 (xt_ne (by decide)))
    have f8 := f7.trans (s8.mono (fun _ h => five_old h.1))
    have k2 := N8.cb0
    have l2 := N8.lb
    clear N7 f7 s8 x8
    go_wp2_with fail
    refine (xcompG_any 1 bxb mb kb w8 T8 N8.xb oka).mono ?_
    rintro e w9 ⟨rfl, T9, s9, x9⟩
    have N9 := N8.cells s9 (fun _ e => e.1) (hX.step N8.xa s9 (xt_ne (by decide))) x9 (hX.step N8.xc s9 (xt_ne (by decide)))
    have f9 := f8.trans (s9.mono (fun _ h => five_old h.1))
    have k3 := N9.cc0
    have l3 := N9.lc
    clear N8 f8 s9 x9 k2 l2
    go_wp2_with fail
    refine (xcompG_any 2 bxc mc kc w9 T9 N9.xc okc).mono ?_
    rintro e w10 ⟨rfl, T10, s10, x10⟩
    have N10 := N9.cells s10 (fun _ e => e.1) (hX.step N9.xa s10 (xt_ne (by decide))) (hX.step N9.xb s10 (xt_ne (by decide))) x10
    have f10 := f9.trans (s10.mono (fun _ h => five_old h.1))
    clear N9 f9 s10 x10 k3 l3
    have k1 := N10.ca0
    have k2 := N10.cb0
    have k3 := N10.cc0
    have l1 := N10.la
    have l2 := N10.lb
    have l3 := N10.lc
    have hlg1 := xlogG_any 0 bxa mb _ w10 T10 N10.xa
    have hlg2 := xlogG_any 1 bxb mb _ w10 T10 N10.xb
    have hlg3 := xlogG_any 2 bxc mc _ w10 T10 N10.xc
    have hbf := below_all f10
    clear N10 f10
    simp only at hlg1 hlg2 hlg3
    have st := str_eq (compL mb.c (coreM mb))
    have st3 := str_ne n2
    generalize compL mb.c (coreM mb) = c1 at *
    generalize compL mc.c (coreM mc) = c2 at *
    go_wp2_with fail
    refine hlg1.mono ?_
    rintro e w11 ⟨rfl, rfl⟩
    go_wp2_with fail
    refine hlg2.mono ?_
    rintro e w12 ⟨rfl, rfl⟩
    go_wp2_with fail
    refine hlg3.mono ?_
    rintro e w13 ⟨rfl, rfl⟩
    go_wp2
    go_ret
    exact ⟨rfl, hbf⟩

end Go.Proofs.YtockkceclkcgbaaGreatDoor

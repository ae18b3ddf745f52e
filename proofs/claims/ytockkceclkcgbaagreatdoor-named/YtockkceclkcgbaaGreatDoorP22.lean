/- Where the two errors of package quay lie when a call begins. -/
import Derived.Test.YtockkceclkcgbaaGreatDoorX02
import Derived.Test.YtockkceclkcgbaaGreatDoorP13
import Derived.Stop.LaidErr
import Derived.Test.YtockkceclkcgbaaGreatDoorP08
import Derived.ProofKit
import Derived.Deep.Slices
import Derived.Lib.SmallJoins
import Derived.OpenShut
import Derived.SizedLaws
namespace Go.Proofs.YtockkceclkcgbaaGreatDoor
open Go.RowKit Go.Extern.Stop Go.Stop Go.Extern

theorem Tryz.gCut : Tryz.prog.globalNamed "quay/quay.errCut" = some 0 := by kernel_rfl
theorem Tryz.gWrong : Tryz.prog.globalNamed "quay/quay.errWrong" = some 1 := by kernel_rfl
theorem Tryz.gCutType : (Tryz.prog.globals[0]?).map (·.type) = some 126 := by kernel_rfl
theorem Tryz.gWrongType : (Tryz.prog.globals[1]?).map (·.type) = some 126 := by kernel_rfl
theorem Tryz.cellsEs : Tryz.prog.cellsOf 279 = 1 := by kernel_rfl
theorem Tryz.cellsSt : Tryz.prog.cellsOf 9 = 1 := by kernel_rfl
theorem Tryz.starEs : "*" ++ "errors.errorString" = "*errors.errorString" := by decide
theorem Tryz.rowEs (u : TypeId) (h : Tryz.prog.typeName? 3 u = some "*errors.errorString") : u = 257 :=
  typeName_ptr_named (nm := "errors.errorString") (by rw [Tryz.starEs]; kernel_rfl) (by kernel_rfl) (by decide) u (by rw [Tryz.starEs]; exact h)

theorem laid_open {W : World} (h : laidMetH Tryz.prog laidL W) : ∃ a0 a1, Laid W (fun _ => .old) a0 a1 := by
  have hL : laidMet Tryz.prog laidL W := h
  obtain ⟨a0, a1, s0, s1, c0, c1, t0, t1, hv0, hv1, hc0, hs0, hz0, hc1, hs1, hz1, hne, hb0, hb1⟩ := laid_sentinels2 hL Tryz.gCut Tryz.gCutType Tryz.gWrong Tryz.gWrongType Tryz.underlying126 Tryz.rowEs Tryz.underlying257 Tryz.underlying279 rfl rfl Tryz.underlying9 Tryz.cellsEs Tryz.cellsSt
  have hg0 : W.cell? ⟨0, 0, none⟩ = some (.iface 257 (.pointer (some a0))) := by simpa using World.var?_cell Tryz.gCut hv0 0
  have hg1 : W.cell? ⟨1, 0, none⟩ = some (.iface 257 (.pointer (some a1))) := by simpa using World.var?_cell Tryz.gWrong hv1 0
  have hl : ∀ g v, W.cell? ⟨g, 0, none⟩ = some v → g < W.heap.size := fun g v hc => by
    unfold World.cell? at hc
    rcases Nat.lt_or_ge g W.heap.size with hlt | hge
    · exact hlt
    · simp [Array.getElem?_eq_none hge] at hc
  exact ⟨a0, a1, ⟨hg0, rfl, hl _ _ hg0, ⟨c0, t0, hb0⟩, rfl⟩, ⟨hg1, rfl, hl _ _ hg1, ⟨c1, t1, hb1⟩, rfl⟩, hne⟩

end Go.Proofs.YtockkceclkcgbaaGreatDoor

/- The arguments of the statements of a run, opened: numbers, and a script. -/
namespace Go.Proofs.YtockkceclkcgbaaGreatDoor
open Go.ChangeShapes Go.WideShapes Go.ChangeAt Go.RowKit

theorem Tryz.own : ownKnob Tryz.prog.godebug = none := by kernel_rfl
theorem Tryz.laidOut : laidOutB Tryz.prog = true := by kernel_rfl
theorem Tryz.cells3 : Tryz.prog.cellsOf 3 = 1 := by kernel_rfl
theorem Tryz.cells85 : Tryz.prog.cellsOf 85 = 4 := by kernel_rfl
theorem Tryz.bytes85 : Tryz.prog.bytesOf 85 = 32 := by kernel_rfl
theorem Tryz.bytes3 : Tryz.prog.bytesOf 3 = 8 := by kernel_rfl

theorem i64_wf {n : Int} (h : (Lit.int .i64 n).wf = true) : i64 n := by
  simp [Lit.wf, IntKind.min, IntKind.max, IntKind.signed, IntKind.bits] at h
  unfold i64
  omega

theorem spot_none {W : World} {a : Addr} {u : Value} (h1 : W.cell? a = some u) : a.spot = none ∧ a.block < W.heap.size := by
  unfold World.cell? at h1
  split at h1
  · rename_i c e fz hb
    refine ⟨?_, ?_⟩
    · cases hsp : a.spot with
      | none => rfl
      | some _ => rw [hsp] at h1; simp at h1
    · rcases Nat.lt_or_ge a.block W.heap.size with hlt | hge
      · exact hlt
      · rw [Array.getElem?_eq_none hge] at hb; cases hb
  · cases h1

set_option maxRecDepth 100000 in
/-- The numbers among the arguments, opened. -/
theorem open_raws {H : Type} {enc : TypeId × Value → H} {W : World} {v : Value} {d : DataW H} {p : List MemPlace} {fuel : Nat} {a0 : Option Addr} {len cap : Nat} (hv : v = .slice a0 len cap)
    (hf : DataW.trod enc Tryz.prog W 0 (fun _ => true) true fuel 50 v.cells.toList = some (d, p)) :
    ∃ l : List Int, len = l.length ∧ ArgI W a0 l ∧ (l.length = 0 ∨ ∃ xs ys, d = .slice xs ys ∧ xs.length = l.length) := by
  subst hv
  rcases Deep.open_slice Tryz.underlying50 hf with ⟨hcs, _⟩ | ⟨a, len', cap', m, n, D, Pl, hcs, _, hl, hm, hmm, hx, hel⟩
  · simp [Value.cells] at hcs
    obtain ⟨rfl, rfl, rfl⟩ := hcs
    exact ⟨[], rfl, fun k o h => by simp at h, .inl rfl⟩
  · simp [Value.cells] at hcs
    obtain ⟨rfl, rfl, rfl⟩ := hcs
    have hlm : len ≤ m := by rw [hmm]; split <;> omega
    have each : ∀ i, i < m → ∃ o : Int, i64 o ∧ W.cell? (a.add i) = some (.int .i64 o) := by
      intro i hi
      obtain ⟨cs', h1, h2⟩ := hel i hi
      rw [Tryz.cells3] at h1
      obtain ⟨_, hlen, hcell⟩ := World.cells?_some h1
      obtain ⟨a0, e0, _, w0⟩ := DataW.trod_int Tryz.underlying3 h2
      subst e0
      refine ⟨a0, i64_wf w0, ?_⟩
      have hc := hcell 0 (by decide)
      rw [Deep.add_add, Nat.mul_one, Nat.add_zero] at hc
      rw [hc]
      rfl
    have hpick : ∃ f : Nat → Int, ∀ i, i < m → i64 (f i) ∧ W.cell? (a.add i) = some (.int .i64 (f i)) := Deep.choose_lt each
    obtain ⟨f, hf2⟩ := hpick
    refine ⟨(List.range len).map f, by simp, fun k o hk => ?_, .inr ⟨_, _, (Prod.mk.inj hx).1, by simp⟩⟩
    have hkl : k < len := by
      have := (List.getElem?_eq_some_iff.1 hk).1
      simpa using this
    have ho : o = f k := by
      simp [hkl] at hk
      exact hk.symm
    subst ho
    obtain ⟨r1, r3⟩ := hf2 k (by omega)
    refine ⟨r1, ?_⟩
    have h1 := (hf2 0 (by omega)).2
    have hs : a.spot = none ∧ a.block < W.heap.size := by
      simp only [Addr.add, if_true] at h1
      exact spot_none h1
    obtain ⟨ab, aoff, asp⟩ := a
    obtain ⟨rfl, hb⟩ := hs
    refine ⟨ab, aoff, rfl, hb, ?_⟩
    rw [Addr.add_lit] at r3
    exact r3

set_option maxRecDepth 100000 in
/-- The script among the arguments, opened. -/
theorem open_steps {H : Type} {enc : TypeId × Value → H} {W : World} {v : Value} {d : DataW H} {p : List MemPlace} {fuel : Nat} {a0 : Option Addr} {len cap : Nat} (hv : v = .slice a0 len cap)
    (hf : DataW.trod enc Tryz.prog W 0 (fun _ => true) true fuel 51 v.cells.toList = some (d, p)) :
    ∃ l : List StV, len = l.length ∧ ArgS W a0 l ∧ (l.length = 0 ∨ ∃ xs ys, d = .slice xs ys ∧ xs.length = l.length) := by
  subst hv
  rcases Deep.open_slice Tryz.underlying51 hf with ⟨hcs, _⟩ | ⟨a, len', cap', m, n, D, Pl, hcs, _, hl, hm, hmm, hx, hel⟩
  · simp [Value.cells] at hcs
    obtain ⟨rfl, rfl, rfl⟩ := hcs
    exact ⟨[], rfl, fun k o h => by simp at h, .inl rfl⟩
  · simp [Value.cells] at hcs
    obtain ⟨rfl, rfl, rfl⟩ := hcs
    have hlm : len ≤ m := by rw [hmm]; split <;> omega
    have each : ∀ i, i < m → ∃ o : StV, i64 o.G ∧ i64 o.n ∧ i64 o.ms ∧ ∀ j u, o.cells[j]? = some u → W.cell? (a.add (i * 4 + j)) = some u := by
      intro i hi
      obtain ⟨cs', h1, h2⟩ := hel i hi
      rw [Tryz.cells85] at h1
      obtain ⟨_, hlen, hcell⟩ := World.cells?_some h1
      obtain ⟨xs, k, _, _, _, hxl, hfd⟩ := DataW.trod_struct Tryz.underlying85 h2
      match xs, hxl, cs', hlen with
      | [y0, y1, y2, y3], _, [v0, v1, v2, v3], _ =>
        have g0 := hfd 0 _ rfl
        have g1 := hfd 1 _ rfl
        have g2 := hfd 2 _ rfl
        have g3 := hfd 3 _ rfl
        simp [Tryz.cells3] at g0 g1 g2 g3
        obtain ⟨a0, e0, _, _⟩ := DataW.trod_int Tryz.underlying3 g0
        obtain ⟨a1, e1, _, w1⟩ := DataW.trod_int Tryz.underlying3 g1
        obtain ⟨a2, e2, _, w2⟩ := DataW.trod_int Tryz.underlying3 g2
        obtain ⟨a3, e3, _, w3⟩ := DataW.trod_int Tryz.underlying3 g3
        simp only [List.cons.injEq, and_true] at e0 e1 e2 e3
        subst e0 e1 e2 e3
        refine ⟨⟨a0, a1, a2, a3⟩, i64_wf w1, i64_wf w2, i64_wf w3, fun j u hj => ?_⟩
        have hj4 : j < 4 := by
          rcases Nat.lt_or_ge j 4 with h | h
          · exact h
          · rw [Array.getElem?_eq_none (by simpa [StV.cells] using h)] at hj; cases hj
        have hc := hcell j (by omega)
        rw [Deep.add_add] at hc
        rw [hc]
        simpa [StV.cells] using hj
    have hpick : ∃ f : Nat → StV, ∀ i, i < m → i64 (f i).G ∧ i64 (f i).n ∧ i64 (f i).ms ∧ ∀ j u, (f i).cells[j]? = some u → W.cell? (a.add (i * 4 + j)) = some u := by
      haveI : Inhabited StV := ⟨⟨0, 0, 0, 0⟩⟩
      exact Deep.choose_lt each
    obtain ⟨f, hf2⟩ := hpick
    refine ⟨(List.range len).map f, by simp, fun k o hk => ?_, .inr ⟨_, _, (Prod.mk.inj hx).1, by simp⟩⟩
    have hkl : k < len := by
      have := (List.getElem?_eq_some_iff.1 hk).1
      simpa using this
    have ho : o = f k := by
      simp [hkl] at hk
      exact hk.symm
    subst ho
    obtain ⟨r1, r2, r2', r3⟩ := hf2 k (by omega)
    refine ⟨r1, r2, r2', ?_⟩
    have h1 := (hf2 0 (by omega)).2.2.2 0 _ rfl
    have hs : a.spot = none ∧ a.block < W.heap.size := by
      simp only [Nat.zero_mul, Nat.add_zero, Addr.add, if_true] at h1
      exact spot_none h1
    obtain ⟨ab, aoff, asp⟩ := a
    obtain ⟨rfl, hb⟩ := hs
    refine ⟨ab, aoff, rfl, hb, fun j u hj => ?_⟩
    have := r3 j u hj
    rw [Addr.add_lit, ← Nat.add_assoc] at this
    exact this

end Go.Proofs.YtockkceclkcgbaaGreatDoor

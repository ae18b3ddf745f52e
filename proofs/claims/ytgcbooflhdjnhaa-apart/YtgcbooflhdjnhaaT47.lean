/- Apart is true whatever the numbers and the script, and leaves them as they were: the given statement ApartSaid, with no condition. -/
import Derived.Test.YtgcbooflhdjnhaaT46
import Derived.ProofKit
import Derived.Deep.Slices
import Derived.Lib.SmallJoins
import Derived.OpenShut
import Derived.SizedLaws
namespace Go.Proofs.Ytgcbooflhdjnhaa
open Go.ChangeShapes Go.WideShapes Go.ChangeAt Go.RowKit

theorem Try.own : ownKnob Try.prog.godebug = none := by kernel_rfl
theorem Try.laidOut : laidOutB Try.prog = true := by kernel_rfl
theorem Try.cells3 : Try.prog.cellsOf 3 = 1 := by kernel_rfl
theorem Try.cells73 : Try.prog.cellsOf 73 = 4 := by kernel_rfl
theorem Try.bytes73 : Try.prog.bytesOf 73 = 32 := by kernel_rfl
theorem Try.bytes3 : Try.prog.bytesOf 3 = 8 := by kernel_rfl

theorem i64_wf {n : Int} (h : (Lit.int .i64 n).wf = true) : i64 n := by
  simp [Lit.wf, IntKind.min, IntKind.max, IntKind.signed, IntKind.bits] at h
  unfold i64
  omega

theorem spot_none {W : World} {a : Addr} {u : Value} (h1 : W.cell? a = some u) : a.spot = none ∧ a.block < W.heap.size := by
  unfold World.cell? at h1
  split at h1
  · rename_i c e fz hb
    refine ⟨?_, ?_⟩
    · cases hsp : a.spot with
      | none => rfl
      | some _ => rw [hsp] at h1; simp at h1
    · rcases Nat.lt_or_ge a.block W.heap.size with hlt | hge
      · exact hlt
      · rw [Array.getElem?_eq_none hge] at hb; cases hb
  · cases h1

set_option maxRecDepth 100000 in
/-- The numbers among the arguments, opened. -/
theorem open_raws {H : Type} {enc : TypeId × Value → H} {W : World} {v : Value} {d : DataW H} {p : List MemPlace} {fuel : Nat} {a0 : Option Addr} {len cap : Nat} (hv : v = .slice a0 len cap)
    (hf : DataW.trod enc Try.prog W 0 (fun _ => true) true fuel 23 v.cells.toList = some (d, p)) :
    ∃ l : List Int, len = l.length ∧ ArgI W a0 l ∧ (l.length = 0 ∨ ∃ xs ys, d = .slice xs ys ∧ xs.length = l.length) := by
  subst hv
  rcases Deep.open_slice Try.underlying23 hf with ⟨hcs, _⟩ | ⟨a, len', cap', m, n, D, Pl, hcs, _, hl, hm, hmm, hx, hel⟩
  · simp [Value.cells] at hcs
    obtain ⟨rfl, rfl, rfl⟩ := hcs
    exact ⟨[], rfl, fun k o h => by simp at h, .inl rfl⟩
  · simp [Value.cells] at hcs
    obtain ⟨rfl, rfl, rfl⟩ := hcs
    have hlm : len ≤ m := by rw [hmm]; split <;> omega
    have each : ∀ i, i < m → ∃ o : Int, i64 o ∧ W.cell? (a.add i) = some (.int .i64 o) := by
      intro i hi
      obtain ⟨cs', h1, h2⟩ := hel i hi
      rw [Try.cells3] at h1
      obtain ⟨_, hlen, hcell⟩ := World.cells?_some h1
      obtain ⟨a0, e0, _, w0⟩ := DataW.trod_int Try.underlying3 h2
      subst e0
      refine ⟨a0, i64_wf w0, ?_⟩
      have hc := hcell 0 (by decide)
      rw [Deep.add_add, Nat.mul_one, Nat.add_zero] at hc
      rw [hc]
      rfl
    have hpick : ∃ f : Nat → Int, ∀ i, i < m → i64 (f i) ∧ W.cell? (a.add i) = some (.int .i64 (f i)) := Deep.choose_lt each
    obtain ⟨f, hf2⟩ := hpick
    refine ⟨(List.range len).map f, by simp, fun k o hk => ?_, .inr ⟨_, _, (Prod.mk.inj hx).1, by simp⟩⟩
    have hkl : k < len := by
      have := (List.getElem?_eq_some_iff.1 hk).1
      simpa using this
    have ho : o = f k := by
      simp [hkl] at hk
      exact hk.symm
    subst ho
    obtain ⟨r1, r3⟩ := hf2 k (by omega)
    refine ⟨r1, ?_⟩
    have h1 := (hf2 0 (by omega)).2
    have hs : a.spot = none ∧ a.block < W.heap.size := by
      simp only [Addr.add, if_true] at h1
      exact spot_none h1
    obtain ⟨ab, aoff, asp⟩ := a
    obtain ⟨rfl, hb⟩ := hs
    refine ⟨ab, aoff, rfl, hb, ?_⟩
    rw [Addr.add_lit] at r3
    exact r3

set_option maxRecDepth 100000 in
/-- The script among the arguments, opened. -/
theorem open_steps {H : Type} {enc : TypeId × Value → H} {W : World} {v : Value} {d : DataW H} {p : List MemPlace} {fuel : Nat} {a0 : Option Addr} {len cap : Nat} (hv : v = .slice a0 len cap)
    (hf : DataW.trod enc Try.prog W 0 (fun _ => true) true fuel 68 v.cells.toList = some (d, p)) :
    ∃ l : List StV, len = l.length ∧ ArgS W a0 l ∧ (l.length = 0 ∨ ∃ xs ys, d = .slice xs ys ∧ xs.length = l.length) := by
  subst hv
  rcases Deep.open_slice Try.underlying68 hf with ⟨hcs, _⟩ | ⟨a, len', cap', m, n, D, Pl, hcs, _, hl, hm, hmm, hx, hel⟩
  · simp [Value.cells] at hcs
    obtain ⟨rfl, rfl, rfl⟩ := hcs
    exact ⟨[], rfl, fun k o h => by simp at h, .inl rfl⟩
  · simp [Value.cells] at hcs
    obtain ⟨rfl, rfl, rfl⟩ := hcs
    have hlm : len ≤ m := by rw [hmm]; split <;> omega
    have each : ∀ i, i < m → ∃ o : StV, i64 o.G ∧ i64 o.n ∧ i64 o.ms ∧ ∀ j u, o.cells[j]? = some u → W.cell? (a.add (i * 4 + j)) = some u := by
      intro i hi
      obtain ⟨cs', h1, h2⟩ := hel i hi
      rw [Try.cells73] at h1
      obtain ⟨_, hlen, hcell⟩ := World.cells?_some h1
      obtain ⟨xs, k, _, _, _, hxl, hfd⟩ := DataW.trod_struct Try.underlying73 h2
      match xs, hxl, cs', hlen with
      | [y0, y1, y2, y3], _, [v0, v1, v2, v3], _ =>
        have g0 := hfd 0 _ rfl
        have g1 := hfd 1 _ rfl
        have g2 := hfd 2 _ rfl
        have g3 := hfd 3 _ rfl
        simp [Try.cells3] at g0 g1 g2 g3
        obtain ⟨a0, e0, _, _⟩ := DataW.trod_int Try.underlying3 g0
        obtain ⟨a1, e1, _, w1⟩ := DataW.trod_int Try.underlying3 g1
        obtain ⟨a2, e2, _, w2⟩ := DataW.trod_int Try.underlying3 g2
        obtain ⟨a3, e3, _, w3⟩ := DataW.trod_int Try.underlying3 g3
        simp only [List.cons.injEq, and_true] at e0 e1 e2 e3
        subst e0 e1 e2 e3
        refine ⟨⟨a0, a1, a2, a3⟩, i64_wf w1, i64_wf w2, i64_wf w3, fun j u hj => ?_⟩
        have hj4 : j < 4 := by
          rcases Nat.lt_or_ge j 4 with h | h
          · exact h
          · rw [Array.getElem?_eq_none (by simpa [StV.cells] using h)] at hj; cases hj
        have hc := hcell j (by omega)
        rw [Deep.add_add] at hc
        rw [hc]
        simpa [StV.cells] using hj
    have hpick : ∃ f : Nat → StV, ∀ i, i < m → i64 (f i).G ∧ i64 (f i).n ∧ i64 (f i).ms ∧ ∀ j u, (f i).cells[j]? = some u → W.cell? (a.add (i * 4 + j)) = some u := by
      haveI : Inhabited StV := ⟨⟨0, 0, 0, 0⟩⟩
      exact Deep.choose_lt each
    obtain ⟨f, hf2⟩ := hpick
    refine ⟨(List.range len).map f, by simp, fun k o hk => ?_, .inr ⟨_, _, (Prod.mk.inj hx).1, by simp⟩⟩
    have hkl : k < len := by
      have := (List.getElem?_eq_some_iff.1 hk).1
      simpa using this
    have ho : o = f k := by
      simp [hkl] at hk
      exact hk.symm
    subst ho
    obtain ⟨r1, r2, r2', r3⟩ := hf2 k (by omega)
    refine ⟨r1, r2, r2', ?_⟩
    have h1 := (hf2 0 (by omega)).2.2.2 0 _ rfl
    have hs : a.spot = none ∧ a.block < W.heap.size := by
      simp only [Nat.zero_mul, Nat.add_zero, Addr.add, if_true] at h1
      exact spot_none h1
    obtain ⟨ab, aoff, asp⟩ := a
    obtain ⟨rfl, hb⟩ := hs
    refine ⟨ab, aoff, rfl, hb, fun j u hj => ?_⟩
    have := r3 j u hj
    rw [Addr.add_lit, ← Nat.add_assoc] at this
    exact this

set_option maxRecDepth 100000 in
theorem apart_contract (H : Type) (enc : TypeId × Value → H) (W : World) (base : Nat) (args : Array Value) (ds gs : List (DataW H)) (before : List MemPlace)
    (hval : ∀ (j : Nat) t v, Try.f7.params[j]? = some t → args[j]? = some v → Value.okWide Try.prog W .any base t v)
    (hW : DataW.Whole enc Try.prog Try.f7.params.toList Rows.apartSpec.vars false W args.toList ds gs before)
    (hsz : (DataW.weightsEach Try.prog (Try.f7.params.toList ++ Rows.apartSpec.plain.varTypes Try.prog) (ds ++ gs)).all (· ≤ reachBytes) = true) :
    Calls Try.prog 7 args W fun e W' => ∃ v, e = .returned v ∧ Rows.apartSpec.post enc Try.prog Try.f7 false true false false W args v W' := by
  have hW' := hW
  obtain ⟨p, q, hA0, hV, rfl, _, _⟩ := hW
  have hA : DataW.TrodAll enc Try.prog W 0 (fun _ => true) true Try.f7.params.toList args.toList ds p := hA0
  rw [Try.params7] at hA hval hsz
  obtain ⟨v0, v1, d0, d1, p0, p1, rfl, rfl, rfl, h0, h1⟩ := trodAll_two hA
  obtain ⟨rfl, rfl⟩ := trodVars_none hV
  obtain ⟨a0, n0, c0, rfl⟩ := okWide_slice Try.underlying23 (hval 0 23 v0 rfl rfl)
  obtain ⟨a1, n1, c1, rfl⟩ := okWide_slice Try.underlying68 (hval 1 68 v1 rfl rfl)
  have h0k := h0
  have h1k := h1
  obtain ⟨f0, hf0⟩ := h0
  obtain ⟨f1, hf1⟩ := h1
  clear hA0
  simp only [List.append_nil] at hW' hsz
  have hlt : ∀ x ∈ p0 ++ p1, x.block < W.heap.size := fun x hx => by simpa using hW'.lt x hx
  have hlt0 : ∀ x ∈ p0, x.block < W.heap.size := fun x hx => hlt x (by simp [hx])
  have hlt1 : ∀ x ∈ p1, x.block < W.heap.size := fun x hx => hlt x (by simp [hx])
  obtain ⟨l, rfl, hL, hdl⟩ := open_raws rfl hf0
  obtain ⟨s, rfl, hS, hds⟩ := open_steps rfl hf1
  have hlenL : l.length ≤ 9223372036854775807 := by
    rcases hdl with h | ⟨xs, ys, rfl, hx⟩
    · omega
    · have := sized_slice hsz (j := 0) (t := 23) (e := 3) rfl rfl Try.underlying23
      rw [Try.bytes3, hx] at this
      have h47 := reachBytes_lt
      omega
  have hlenS : s.length ≤ 4398046511104 := by
    rcases hds with h | ⟨xs, ys, rfl, hx⟩
    · omega
    · have := sized_slice hsz (j := 1) (t := 68) (e := 73) rfl rfl Try.underlying68
      rw [Try.bytes73, hx] at this
      have h47 := reachBytes_lt
      omega
  refine (kapart_any l s a0 a1 c0 c1 W hL hS hlenL hlenS).mono fun e W' ⟨he, hg⟩ => ?_
  subst he
  refine ⟨_, rfl, _, _, _, [], p0 ++ p1, [], hW', ?_, ?_, rfl, hg.frame _, fun h => by cases h⟩
  · exact trodAll_mk1 (shut_bool Try.underlying4 _)
  · exact trodAll_mk2 (Below.trod Try.laidOut (by kernel_rfl) (of_decide_eq_true (by kernel_rfl)) h0k hg hlt0) (Below.trod Try.laidOut (by kernel_rfl) (of_decide_eq_true (by kernel_rfl)) h1k hg hlt1)

set_option maxRecDepth 100000 in
theorem apart_lifted (os : Os) (started : os.Started) (H : Type) (enc : TypeId × Value → H) :
    ReturnsInHanded {} Try.checked os 7 .any (Rows.apartSpec.pre6 enc Try.prog Try.f7 Rows.apartRow.domain false) (Rows.apartSpec.post enc Try.prog Try.f7 false true false false) := by
  refine returnsInHanded_of_change_sized (C := Try.checked) Try.own started (by kernel_rfl) Try.func7
    (ChangeSpec.witness6 (enc := enc) (C := Try.checked) false ⟨#[], #[.slice none 0 0, .slice none 0 0], []⟩ 8 (by kernel_rfl) (by kernel_rfl) (by kernel_rfl) (by kernel_rfl)) ?_
  intro W base args ds gs before hval hW _ hsz _
  exact apart_contract H enc W base args ds gs before hval hW hsz

theorem apart_holds : Rows.ApartSaid :=
  OpenClaim.holds_of_wide 7 Try.f7 rfl rfl rfl rfl rfl rfl rfl ⟨rfl, rfl, rfl, rfl, rfl⟩ rfl rfl rfl rfl rfl (by kernel_rfl) Try.func7 (by kernel_rfl)
    (of_decide_eq_true (by kernel_rfl)) (by unfold Func.isWrapper; first | (rw [if_pos (by decide +kernel)]; kernel_rfl) | (rw [if_neg (by decide +kernel)]; exact ⟨rfl, rfl⟩))
    (fun os started H enc _ => apart_lifted os started H enc)

#print axioms apart_holds

end Go.Proofs.Ytgcbooflhdjnhaa

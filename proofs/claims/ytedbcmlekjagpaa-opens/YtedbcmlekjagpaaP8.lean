/- Opens is true whatever the configurations and the script, and leaves them as they were: the given statement OpensSaid, with no condition. -/
import Derived.Test.YtedbcmlekjagpaaP7
import Derived.ProofKit
import Derived.Deep.Slices
import Derived.Lib.SmallJoins
import Derived.SizedLaws
namespace Go.Proofs.Ytedbcmlekjagpaa
open Go.ChangeShapes Go.WideShapes Go.ChangeAt Go.RowKit

theorem Try.own : ownKnob Try.prog.godebug = none := by kernel_rfl
theorem Try.laidOut : laidOutB Try.prog = true := by kernel_rfl
theorem Try.cells3 : Try.prog.cellsOf 3 = 1 := by kernel_rfl
theorem Try.cells4 : Try.prog.cellsOf 4 = 1 := by kernel_rfl
theorem Try.cells9 : Try.prog.cellsOf 9 = 1 := by kernel_rfl
theorem Try.cells44 : Try.prog.cellsOf 44 = 4 := by kernel_rfl
theorem Try.cells61 : Try.prog.cellsOf 61 = 8 := by kernel_rfl
theorem Try.bytes61 : Try.prog.bytesOf 61 = 80 := by kernel_rfl

theorem i64_of_wf {n : Int} (h : (Lit.int .i64 n).wf = true) : i64 n := by
  simp [Lit.wf, IntKind.min, IntKind.max, IntKind.signed, IntKind.bits] at h
  unfold i64
  omega

set_option maxRecDepth 100000 in
/-- A configuration among the arguments, opened. -/
theorem open_conf {H : Type} {enc : TypeId × Value → H} {W : World} {b0 : Nat} {v : Value} {d : DataW H} {p : List MemPlace} (hv : Value.okWide Try.prog W .any b0 44 v) (h : DataW.Trod enc Try.prog W 0 (fun _ => true) true 44 v d p) :
    ∃ c : Conf, v = .agg c.cells := by
  obtain ⟨c0, c1, c2, c3, y0, y1, y2, y3, n, rfl, _, _, h0, h1, h2, h3⟩ := Joins.open_agg4 Try.underlying44 (by kernel_rfl) Try.cells44 hv h
  obtain ⟨a0, e0, _, _⟩ := DataW.trod_int Try.underlying3 h0
  obtain ⟨a1, e1, _, _⟩ := DataW.trod_int Try.underlying3 h1
  obtain ⟨a2, e2, _, _⟩ := DataW.trod_int Try.underlying3 h2
  obtain ⟨a3, e3, _, _⟩ := DataW.trod_int Try.underlying3 h3
  simp only [List.cons.injEq, and_true] at e0 e1 e2 e3
  exact ⟨⟨a0, a1, a2, a3⟩, by rw [e0, e1, e2, e3]⟩

set_option maxRecDepth 100000 in
/-- The script among the arguments, opened. -/
theorem open_ops {H : Type} {enc : TypeId × Value → H} {W : World} {v : Value} {d : DataW H} {p : List MemPlace} {fuel : Nat} {a0 : Option Addr} {len cap : Nat} (hv : v = .slice a0 len cap)
    (hf : DataW.trod enc Try.prog W 0 (fun _ => true) true fuel 45 v.cells.toList = some (d, p)) :
    ∃ l : List OpV, len = l.length ∧ ArgO W a0 l ∧ (l.length = 0 ∨ ∃ xs ys, d = .slice xs ys ∧ xs.length = l.length) := by
  subst hv
  rcases Deep.open_slice Try.underlying45 hf with ⟨hcs, _⟩ | ⟨a, len', cap', m, n, D, Pl, hcs, _, hl, hm, hmm, hx, hel⟩
  · simp [Value.cells] at hcs
    obtain ⟨rfl, rfl, rfl⟩ := hcs
    exact ⟨[], rfl, fun k o h => by simp at h, .inl rfl⟩
  · simp [Value.cells] at hcs
    obtain ⟨rfl, rfl, rfl⟩ := hcs
    have hlm : len ≤ m := by rw [hmm]; split <;> omega
    have each : ∀ i, i < m → ∃ o : OpV, i64 o.qu ∧ i64 o.n ∧ ∀ j u, o.cells[j]? = some u → W.cell? (a.add (i * 8 + j)) = some u := by
      intro i hi
      obtain ⟨cs', h1, h2⟩ := hel i hi
      rw [Try.cells61] at h1
      obtain ⟨_, hlen, hcell⟩ := World.cells?_some h1
      obtain ⟨xs, k, _, _, _, hxl, hfd⟩ := DataW.trod_struct Try.underlying61 h2
      match xs, hxl, cs', hlen with
      | [y0, y1, y2, y3, y4, y5, y6, y7], _, [v0, v1, v2, v3, v4, v5, v6, v7], _ =>
        have g0 := hfd 0 _ rfl
        have g1 := hfd 1 _ rfl
        have g2 := hfd 2 _ rfl
        have g3 := hfd 3 _ rfl
        have g4 := hfd 4 _ rfl
        have g5 := hfd 5 _ rfl
        have g6 := hfd 6 _ rfl
        have g7 := hfd 7 _ rfl
        simp [Try.cells3, Try.cells4, Try.cells9] at g0 g1 g2 g3 g4 g5 g6 g7
        obtain ⟨a0, e0, _, _⟩ := DataW.trod_int Try.underlying3 g0
        obtain ⟨a1, e1, _, w1⟩ := DataW.trod_int Try.underlying3 g1
        obtain ⟨a2, e2, _, _⟩ := DataW.trod_string Try.underlying9 g2
        obtain ⟨a3, e3, _, _⟩ := DataW.trod_string Try.underlying9 g3
        obtain ⟨a4, e4, _, w4⟩ := DataW.trod_int Try.underlying3 g4
        obtain ⟨a5, e5, _, _⟩ := DataW.trod_int Try.underlying3 g5
        obtain ⟨a6, e6, _, _⟩ := DataW.trod_int Try.underlying3 g6
        obtain ⟨a7, e7, _⟩ := DataW.trod_bool Try.underlying4 g7
        simp only [List.cons.injEq, and_true] at e0 e1 e2 e3 e4 e5 e6 e7
        subst e0 e1 e2 e3 e4 e5 e6 e7
        refine ⟨⟨a0, a1, a2, a3, a4, a5, a6, a7⟩, i64_of_wf w1, i64_of_wf w4, fun j u hj => ?_⟩
        have hj8 : j < 8 := by
          rcases Nat.lt_or_ge j 8 with h | h
          · exact h
          · rw [Array.getElem?_eq_none (by simpa using h)] at hj; cases hj
        have hc := hcell j (by omega)
        rw [Deep.add_add] at hc
        rw [hc]
        simpa using hj
    have hpick : ∃ f : Nat → OpV, ∀ i, i < m → i64 (f i).qu ∧ i64 (f i).n ∧ ∀ j u, (f i).cells[j]? = some u → W.cell? (a.add (i * 8 + j)) = some u := by
      haveI : Inhabited OpV := ⟨⟨0, 0, ⟨#[]⟩, ⟨#[]⟩, 0, 0, 0, false⟩⟩
      exact Deep.choose_lt each
    obtain ⟨f, hf2⟩ := hpick
    refine ⟨(List.range len).map f, by simp, fun k o hk => ?_, .inr ⟨_, _, (Prod.mk.inj hx).1, by simp⟩⟩
    have hkl : k < len := by
      have := (List.getElem?_eq_some_iff.1 hk).1
      simpa using this
    have ho : o = f k := by
      simp [hkl] at hk
      exact hk.symm
    subst ho
    obtain ⟨r1, r2, r3⟩ := hf2 k (by omega)
    refine ⟨r1, r2, ?_⟩
    have h1 := (hf2 0 (by omega)).2.2 0 _ rfl
    have hs : a.spot = none ∧ a.block < W.heap.size := by
      simp only [Nat.zero_mul, Nat.add_zero, Addr.add, if_true] at h1
      unfold World.cell? at h1
      split at h1
      · rename_i c e fz hb
        refine ⟨?_, ?_⟩
        · cases hsp : a.spot with
          | none => rfl
          | some _ => rw [hsp] at h1; simp at h1
        · rcases Nat.lt_or_ge a.block W.heap.size with hlt | hge
          · exact hlt
          · rw [Array.getElem?_eq_none hge] at hb; cases hb
      · cases h1
    obtain ⟨ab, aoff, asp⟩ := a
    obtain ⟨rfl, hb⟩ := hs
    refine ⟨ab, aoff, rfl, hb, fun j u hj => ?_⟩
    have := r3 j u hj
    rw [Addr.add_lit, ← Nat.add_assoc] at this
    exact this

set_option maxRecDepth 100000 in
theorem opens_contract (H : Type) (enc : TypeId × Value → H) (W : World) (base : Nat) (args : Array Value) (ds gs : List (DataW H)) (before : List MemPlace)
    (hval : ∀ (j : Nat) t v, Try.f4.params[j]? = some t → args[j]? = some v → Value.okWide Try.prog W .any base t v)
    (hW : DataW.Whole enc Try.prog Try.f4.params.toList Rows.opensSpec.vars false W args.toList ds gs before)
    (hsz : (DataW.weightsEach Try.prog (Try.f4.params.toList ++ Rows.opensSpec.plain.varTypes Try.prog) (ds ++ gs)).all (· ≤ reachBytes) = true) :
    Calls Try.prog 4 args W fun e W' => ∃ v, e = .returned v ∧ Rows.opensSpec.post enc Try.prog Try.f4 false true false false W args v W' := by
  have hW' := hW
  obtain ⟨p, q, hA0, hV, rfl, _, _⟩ := hW
  have hA : DataW.TrodAll enc Try.prog W 0 (fun _ => true) true Try.f4.params.toList args.toList ds p := hA0
  rw [Try.params4] at hA hval hsz
  obtain ⟨v0, v1, v2, d0, d1, d2, p0, p1, p2, rfl, rfl, rfl, h0, h1, h2⟩ := trodAll_three hA
  obtain ⟨rfl, rfl⟩ := trodVars_none hV
  obtain ⟨a2, n2, c2, rfl⟩ := okWide_slice Try.underlying45 (hval 2 45 v2 rfl rfl)
  obtain ⟨c, rfl⟩ := open_conf (hval 0 44 v0 rfl rfl) h0
  obtain ⟨d, rfl⟩ := open_conf (hval 1 44 v1 rfl rfl) h1
  have h2k := h2
  obtain ⟨f2, hf2⟩ := h2
  clear hA0
  simp only [List.append_nil] at hW' hsz
  have hlt : ∀ x ∈ p0 ++ p1 ++ p2, x.block < W.heap.size := fun x hx => by simpa using hW'.lt x hx
  have hlt0 : ∀ x ∈ p0, x.block < W.heap.size := fun x hx => hlt x (by simp [hx])
  have hlt1 : ∀ x ∈ p1, x.block < W.heap.size := fun x hx => hlt x (by simp [hx])
  have hlt2 : ∀ x ∈ p2, x.block < W.heap.size := fun x hx => hlt x (by simp [hx])
  obtain ⟨l, rfl, hL, hd⟩ := open_ops rfl hf2
  have hlen : l.length ≤ 1759218604441 := by
    rcases hd with h | ⟨xs, ys, rfl, hx⟩
    · omega
    · have := sized_slice hsz (j := 2) (t := 45) (e := 61) rfl rfl Try.underlying45
      rw [Try.bytes61, hx] at this
      have h47 := reachBytes_lt
      omega
  refine (opens_any c d l a2 c2 W hL hlen).mono fun e W' ⟨he, hg⟩ => ?_
  subst he
  refine ⟨_, rfl, _, _, _, [], p0 ++ (p1 ++ p2), [], hW', ?_, ?_, rfl, hg.frame _, fun h => by cases h⟩
  · exact trodAll_mk1 (shut_bool Try.underlying4 _)
  · exact trodAll_mk3 (Below.trod Try.laidOut (by kernel_rfl) (of_decide_eq_true (by kernel_rfl)) h0 hg hlt0) (Below.trod Try.laidOut (by kernel_rfl) (of_decide_eq_true (by kernel_rfl)) h1 hg hlt1)
      (Below.trod Try.laidOut (by kernel_rfl) (of_decide_eq_true (by kernel_rfl)) h2k hg hlt2)

set_option maxRecDepth 100000 in
theorem opens_lifted (os : Os) (started : os.Started) (H : Type) (enc : TypeId × Value → H) :
    ReturnsInHanded {} Try.checked os 4 .any (Rows.opensSpec.pre6 enc Try.prog Try.f4 Rows.opensRow.domain false) (Rows.opensSpec.post enc Try.prog Try.f4 false true false false) := by
  refine returnsInHanded_of_change_sized (C := Try.checked) Try.own started (by kernel_rfl) Try.func4
    (ChangeSpec.witness6 (enc := enc) (C := Try.checked) false ⟨#[], #[.agg #[.int .i64 0, .int .i64 0, .int .i64 0, .int .i64 0], .agg #[.int .i64 0, .int .i64 0, .int .i64 0, .int .i64 0], .slice none 0 0], []⟩ 8 (by kernel_rfl) (by kernel_rfl) (by kernel_rfl) (by kernel_rfl)) ?_
  intro W base args ds gs before hval hW _ hsz _
  exact opens_contract H enc W base args ds gs before hval hW hsz

theorem opens_holds : Rows.OpensSaid :=
  OpenClaim.holds_of_wide 4 Try.f4 rfl rfl rfl rfl rfl rfl rfl ⟨rfl, rfl, rfl, rfl, rfl⟩ rfl rfl rfl rfl rfl (by kernel_rfl) Try.func4 (by kernel_rfl)
    (of_decide_eq_true (by kernel_rfl)) (by unfold Func.isWrapper; first | (rw [if_pos (by decide +kernel)]; kernel_rfl) | (rw [if_neg (by decide +kernel)]; exact ⟨rfl, rfl⟩))
    (fun os started H enc _ => opens_lifted os started H enc)

#print axioms opens_holds

end Go.Proofs.Ytedbcmlekjagpaa

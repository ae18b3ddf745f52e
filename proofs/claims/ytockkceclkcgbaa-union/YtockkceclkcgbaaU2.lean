/- Union is true for every list of ranges, and leaves it as it was: the given statement UnionSaid, with no condition. -/
import Derived.Test.YtockkceclkcgbaaU1
import Derived.ProofKit
import Derived.Deep.SlicePairs
namespace Go.Proofs.Ytockkceclkcgbaa
open Go.ChangeShapes Go.WideShapes Go.ChangeAt Go.RowKit

theorem Try.own : ownKnob Try.prog.godebug = none := by kernel_rfl
theorem Try.laidOut : laidOutB Try.prog = true := by kernel_rfl
theorem Try.cells31 : Try.prog.cellsOf 31 = 2 := by kernel_rfl
theorem Try.cells3 : Try.prog.cellsOf 3 = 1 := by kernel_rfl

theorem lo_mk (n : Nat) (f : Nat → Int × Int) (k : Nat) (h : k < n) : lo ((List.range n).map f) k = (f k).1 := by simp [lo, List.getD, h]
theorem hi_mk (n : Nat) (f : Nat → Int × Int) (k : Nat) (h : k < n) : hi ((List.range n).map f) k = (f k).2 := by simp [hi, List.getD, h]

/-- A list of ranges among the arguments, opened. -/
theorem open_ranges {H : Type} {enc : TypeId × Value → H} {W : World} {v : Value} {d : DataW H} {p : List MemPlace} {fuel : Nat} {a0 : Option Addr} {len cap : Nat}
    (hv : v = .slice a0 len cap)
    (hf : DataW.trod enc Try.prog W 0 (fun _ => true) true fuel 22 v.cells.toList = some (d, p)) :
    ∃ ls : RL, len = ls.length ∧ ls.length ≤ cap ∧ cap ≤ maxLen ∧ ArgL W a0 ls ∧ ArgW ls := by
  subst hv
  rcases Deep.open_slice_pairs Try.underlying22 Try.underlying31 Try.cells31 rfl rfl Try.cells3 Try.cells3 hf with ⟨hcs, _⟩ | ⟨a, len', cap', m, n, V0, V1, D0, D1, P0, P1, hcs, _, hl, hm, hmm, _, hx⟩
  · simp [Value.cells] at hcs
    obtain ⟨rfl, rfl, rfl⟩ := hcs
    exact ⟨[], rfl, by simp, by simp [maxLen], fun k h => by simp at h, fun k h => by simp at h⟩
  · simp [Value.cells] at hcs
    obtain ⟨rfl, rfl, rfl⟩ := hcs
    have hmc : m = cap := by simpa using hmm
    subst hmc
    have each : ∀ i, i < m → ∃ x y : Int, V0 i = .int .i64 x ∧ V1 i = .int .i64 y ∧ (Lit.int .i64 x).wf = true ∧ (Lit.int .i64 y).wf = true := by
      intro i hi
      obtain ⟨_, _, h2, h3⟩ := hx i hi
      obtain ⟨x, ex, _, wx⟩ := DataW.trod_int Try.underlying3 h2
      obtain ⟨y, ey, _, wy⟩ := DataW.trod_int Try.underlying3 h3
      simp only [List.cons.injEq, and_true] at ex ey
      exact ⟨x, y, ex, ey, wx, wy⟩
    refine ⟨(List.range len).map fun i => (intOf (V0 i), intOf (V1 i)), by simp, by simpa using hl, hm, fun k h => ?_, fun k h => ?_⟩
    · have hk : k < len := by simpa using h
      have h0 := hx 0 (by omega)
      have hk2 := hx k (by omega)
      obtain ⟨x, y, ex, ey, _, _⟩ := each k (by omega)
      have hs : a.spot = none ∧ a.block < W.heap.size := by
        have h1 := h0.1
        simp only [Nat.zero_mul, Addr.add, if_true] at h1
        unfold World.cell? at h1
        split at h1
        · rename_i c e f hb
          refine ⟨?_, ?_⟩
          · cases hsp : a.spot with
            | none => rfl
            | some _ => rw [hsp] at h1; simp at h1
          · rcases Nat.lt_or_ge a.block W.heap.size with hlt | hge
            · exact hlt
            · rw [Array.getElem?_eq_none hge] at hb; cases hb
        · cases h1
      obtain ⟨ab, ao, asp⟩ := a
      obtain ⟨rfl, hb⟩ := hs
      refine ⟨ab, ao, rfl, hb, ?_, ?_⟩
      · rw [lo_mk _ _ _ hk, ex]
        have := hk2.1
        rw [ex, Addr.add_lit] at this
        exact this
      · rw [hi_mk _ _ _ hk, ey]
        have := hk2.2.1
        rw [ey, Addr.add_lit, ← Nat.add_assoc] at this
        exact this
    · have hk : k < len := by simpa using h
      obtain ⟨x, y, ex, ey, wx, wy⟩ := each k (by omega)
      rw [lo_mk _ _ _ hk, hi_mk _ _ _ hk, ex, ey]
      simp [Lit.wf, IntKind.min, IntKind.max, IntKind.signed, IntKind.bits] at wx wy
      simp only [intOf]
      omega

set_option maxRecDepth 100000 in
theorem union_lifted (os : Os) (started : os.Started) (H : Type) (enc : TypeId × Value → H) :
    ReturnsInHanded {} Try.checked os 4 .any (Rows.unionSpec.pre6 enc Try.prog Try.f4 Rows.unionRow.domain false) (Rows.unionSpec.post enc Try.prog Try.f4 false true false false) := by
  refine returnsInHanded_of_change (C := Try.checked) Try.own started (by kernel_rfl) Try.func4
    (ChangeSpec.witness6 (enc := enc) (C := Try.checked) false ⟨#[], #[.slice none 0 0], []⟩ 8 (by kernel_rfl) (by kernel_rfl) (by kernel_rfl) (by kernel_rfl)) ?_
  intro W base args ds gs before hval0 hW _ _
  have hval : ∀ (j : Nat) t v, Try.f4.params[j]? = some t → args[j]? = some v → Value.okWide Try.prog W .any base t v := hval0
  have hW' := hW
  obtain ⟨p, q, hA0, hV, rfl, _, _⟩ := hW
  have hA : DataW.TrodAll enc Try.prog W 0 (fun _ => true) true Try.f4.params.toList args.toList ds p := hA0
  rw [Try.params4] at hA hval
  obtain ⟨v0, d0, rfl, rfl, h0⟩ := trodAll_one hA
  obtain ⟨rfl, rfl⟩ := trodVars_none hV
  obtain ⟨a0, len, cap, rfl⟩ := okWide_slice Try.underlying22 (hval 0 22 v0 rfl rfl)
  have h0k := h0
  obtain ⟨fuel, hf⟩ := h0
  clear hA0 hval0
  simp only [List.append_nil] at hW'
  have hlt : ∀ x ∈ p, x.block < W.heap.size := fun x hx => by simpa using hW'.lt x hx
  obtain ⟨ls, rfl, hlc, hcm, hL, hw⟩ := open_ranges rfl hf
  refine (union_any ls a0 cap W (by unfold maxLen at hcm; omega) hL hw).mono fun e W' ⟨he, hg⟩ => ?_
  subst he
  refine ⟨_, rfl, _, _, _, [], p, [], hW', ?_, ?_, rfl, hg.frame _, fun h => by cases h⟩
  · exact trodAll_mk1 (shut_bool Try.underlying4 _)
  · exact trodAll_mk1 (Below.trod Try.laidOut (by kernel_rfl) (of_decide_eq_true (by kernel_rfl)) h0k hg hlt)

theorem union_holds : Rows.UnionSaid :=
  OpenClaim.holds_of_wide 4 Try.f4 rfl rfl rfl rfl rfl rfl rfl ⟨rfl, rfl, rfl, rfl, rfl⟩ rfl rfl rfl rfl rfl (by kernel_rfl) Try.func4 (by kernel_rfl)
    (of_decide_eq_true (by kernel_rfl)) (by unfold Func.isWrapper; first | (rw [if_pos (by decide +kernel)]; kernel_rfl) | (rw [if_neg (by decide +kernel)]; exact ⟨rfl, rfl⟩))
    (fun os started H enc _ => union_lifted os started H enc)

#print axioms union_holds

end Go.Proofs.Ytockkceclkcgbaa

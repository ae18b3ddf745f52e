/- The contract of the program's delivery. -/
import Derived.Test.YtgcbooflhdjnhaaT22
import Derived.Deep.RegionHeld3
namespace Go.Proofs.Ytgcbooflhdjnhaa
open Go.RowKit Go.Maps

attribute [local go_sem] over_cell

theorem over_step (w x : World) (T : Nat → Tag) : Step (fun _ => False) w T (over w x) T := step_below _ T (over_below w x)

set_option maxRecDepth 100000 in
set_option maxHeartbeats 400000 in
theorem delivery_walk (b gb g off cap len tb : Nat) (N fl J t : Int) (s : ByteArray) (w : World) (_hlt : b < w.heap.size) (_hlg : gb < w.heap.size) (_hgl : g < w.heap.size) (c5 : w.cell? ⟨b, 5, none⟩ = some (.int .i64 fl)) (c6 : w.cell? ⟨b, 6, none⟩ = some (.slice (some ⟨g, off, none⟩) len cap))
    (d3 : w.cell? ⟨gb, 3, none⟩ = some (.map (some tb))) (hc : w.cell? ⟨g, off + J.toNat, none⟩ = some (.string s)) (hw : IntKind.i64.wrap (N - fl) = J) (h0 : 0 ≤ J) (h1 : J < len)
    (lk : ∀ w', Below w.heap.size w w' → (Instr.lookup 128 (.map (some tb)) (.int .i64 N) false).run Try.prog w' = .ok (.int .i64 t) w') :
    Calls Try.prog 109 #[.pointer (some ⟨b, 0, none⟩), .pointer (some ⟨gb, 0, none⟩), .int .i64 N] w fun e w' => e = .returned (.agg #[.int .i64 N, .int .i64 t, .string s]) ∧ Below w.heap.size w w' := by
  have hb0 : Below w.heap.size w (w.alloc (.cells #[.int .i64 0, .int .i64 0, .string ⟨#[]⟩] 89)).drew := ((Below.refl _ _).alloc (Nat.le_refl _) _).drew
  have lkT := lk _ hb0
  have hb1 : Below w.heap.size w (w.alloc (.cells #[.int .i64 N, .int .i64 t, .string s] 89)).drew := ((Below.refl _ _).alloc (Nat.le_refl _) _).drew
  have lkT2 := lk _ hb1
  clear lk hb0
  go_enter Try.func109, Try.ntmps109
  go_wp2_with fail
  go_region_held3 (fun w' => w'.cell? ⟨b, 5, none⟩ = some (.int .i64 fl) ∧ w'.cell? ⟨b, 6, none⟩ = some (.slice (some ⟨g, off, none⟩) len cap) ∧ w'.cell? ⟨gb, 3, none⟩ = some (.map (some tb)) ∧ w'.cell? ⟨g, off + J.toNat, none⟩ = some (.string s) ∧ (Instr.lookup 128 (.map (some tb)) (.int .i64 N) false).run Try.prog w' = .ok (.int .i64 t) w') (go_keep) (fail)
  go_wp2
  refine bodyPost_ret (v := .agg #[.int .i64 N, .int .i64 t, .string s]) ?_ rfl ⟨rfl, hb1⟩
  simp [results, Try.results109, go_sem]

/-- delivery: the try and the body of a kept message -/
theorem delivery_any (i k b gb : Nat) (p : PG) (n : Nat) (fl : Int) (v : Value) (xs : List Value) (s : ByteArray) (j : Nat) (w : World) (T : Nat → Tag) (h : GM w T i k gb p) (hlt : b < w.heap.size) (c5 : w.cell? ⟨b, 5, none⟩ = some (.int .i64 fl)) (c6 : w.cell? ⟨b, 6, none⟩ = some v)
    (hS : Sub w T (.q i 1 0) v xs) (hj : xs[j]? = some (.string s)) (hnj : (n : Int) - fl = j) (hn : n < 400) (hx : xs.length ≤ 400) :
    Calls Try.prog 109 #[.pointer (some ⟨b, 0, none⟩), .pointer (some ⟨gb, 0, none⟩), .int .i64 n] w fun e w' => e = .returned (.agg #[.int .i64 n, .int .i64 (p.tr n), .string s]) ∧ Below w.heap.size w w' := by
  obtain ⟨g, off, cap, rfl, hcell, hgl⟩ := hS.cell hj
  have hjl := (List.getElem?_eq_some_iff.1 hj).1
  obtain ⟨vD, vE, tb, wb, hB, hD, hE, hT, hW⟩ := h
  refine delivery_walk b gb g off cap xs.length tb n fl j (p.tr n) s w hlt hB.lt hgl c5 c6 (hB.cell (j := 3) rfl) (by simpa using hcell) (by rw [hnj, IntWalk.i64_left, IntWalk.wrap64_in _ ⟨by omega, by omega⟩]) (by omega) (by omega) (fun w' hb => ?_)
  exact (hT.step (step_below (fun _ => False) T hb) (fun h => h)).look ⟨by omega, by omega⟩

end Go.Proofs.Ytgcbooflhdjnhaa

/- Contracts of the program's next: it takes from the first channel, from the second one only if the first has none. -/
namespace Go.Proofs.Ytgcbooflhdjnhaa
open Go.RowKit Go.Maps Go.Conc

/-- Block c is a channel with room for cap numbers, in which those of l lie. -/
def Ch (w : World) (T : Nat → Tag) (t : Tag) (c cap : Nat) (l : List Nat) : Prop := T c = t ∧ ∃ s r, w.heap[c]? = some (.chan cap (l.map natV).toArray false s r false)
theorem Ch.lt {w : World} {T : Nat → Tag} {t : Tag} {c cap : Nat} {l : List Nat} (h : Ch w T t c cap l) : c < w.heap.size := by
  obtain ⟨_, s, r, h⟩ := h
  exact (Array.getElem?_eq_some_iff.1 h).1
theorem Ch.step {S : Tag → Prop} {w w' : World} {T T' : Nat → Tag} {t : Tag} {c cap : Nat} {l : List Nat} (h : Ch w T t c cap l) (hs : Step S w T w' T') (ht : ¬ S t) : Ch w' T' t c cap l := by
  have hlt := h.lt
  obtain ⟨h1, s, r, h2⟩ := h
  exact ⟨(hs.tag c hlt).trans h1, s, r, (hs.block c hlt (by rw [h1]; exact ht)).trans h2⟩
theorem step_setChan (w : World) (T : Nat → Tag) (c cap : Nat) (buf : Array Value) (s r : Nat) {S : Tag → Prop} (hS : S (T c)) : Step S w T (w.setChan c cap buf false s r false) T :=
  step_kept (U := fun k => k = c) ⟨rfl, rfl, rfl, by simp [World.setChan], fun k _ hk => by simp only [World.setChan]; rw [Array.getElem?_setIfInBounds_ne (fun e => hk e.symm)]⟩ (fun k _ hk => by rw [show k = c from hk]; exact hS) (fun _ _ => rfl)

theorem buf_head (v : Nat) (r : List Nat) : (List.map natV (v :: r)).toArray.getD 0 undef = .int .i64 v := by simp [natV]
theorem buf_tail (v : Nat) (r : List Nat) : (List.map natV (v :: r)).toArray.extract 1 (List.map natV (v :: r)).toArray.size = (r.map natV).toArray := by
  apply Array.toList_inj.1
  simp only [Array.toList_extract, List.map_cons, List.size_toArray, List.length_cons, List.length_map]
  simp
  exact List.take_of_length_le (by simp)

set_option maxRecDepth 100000 in
set_option maxHeartbeats 400000 in
theorem next_first (ca cf capA v : Nat) (r : List Nat) (t : Tag) (w : World) (T : Nat → Tag) (hA : Ch w T t ca capA (v :: r)) :
    Calls Try.prog 98 #[.chan (some ca), .chan (some cf)] w fun e w' => e = .returned (.tuple #[.int .i64 v, .bool true]) ∧ Ch w' T t ca capA r ∧ Step (fun s => s = t) w T w' T := by
  obtain ⟨hT, s0, r0, hc⟩ := hA
  have hlt := (Array.getElem?_eq_some_iff.1 hc).1
  go_enter Try.func98, Try.ntmps98
  go_upto_region 2 with (fail)
  refine wp_region_S ?_
  change wpS Try.prog _ _ [0, 1, 2] _ _
  refine wpS_some (c := ca) (cap := capA) (s := s0) (r := r0) (tm := false) (closed := false) (z := .int .i64 0) rfl rfl (by simp [go_sem, execOp, rcase, Act.eval]) hc (by simp) ?_
  rw [buf_head, buf_tail]
  refine wpS_value rfl rfl (v := .int .i64 0) (by simp [go_sem, execOp, Act.eval, Act.put]; rfl) ?_
  refine wpS_value rfl rfl (v := .bool true) (by simp [go_sem, execOp, Act.eval, Act.put]; rfl) ?_
  refine wpS_nil ?_
  have hs := step_setChan w T ca capA (r.map natV).toArray s0 (r0 + 1) (S := fun s => s = t) hT
  have hh := heap_setChan w ca capA (r.map natV).toArray false s0 (r0 + 1) false hlt
  generalize w.setChan ca capA (r.map natV).toArray false s0 (r0 + 1) false = w1 at *
  go_frame
  go_wp2
  go_ret2
  exact ⟨rfl, ⟨hT, _, _, hh⟩, hs⟩

set_option maxRecDepth 100000 in
set_option maxHeartbeats 400000 in
theorem next_second (ca cf capA capF v : Nat) (r : List Nat) (t u : Tag) (w : World) (T : Nat → Tag) (hA : Ch w T u ca capA []) (hF : Ch w T t cf capF (v :: r)) :
    Calls Try.prog 98 #[.chan (some ca), .chan (some cf)] w fun e w' => e = .returned (.tuple #[.int .i64 v, .bool true]) ∧ Ch w' T t cf capF r ∧ Step (fun s => s = t) w T w' T := by
  obtain ⟨hTa, s1, r1, hca⟩ := hA
  obtain ⟨hT, s0, r0, hc⟩ := hF
  have hlt := (Array.getElem?_eq_some_iff.1 hc).1
  go_enter Try.func98, Try.ntmps98
  go_upto_region 2 with (fail)
  refine wp_region_S ?_
  change wpS Try.prog _ _ [0, 1, 2] _ _
  refine wpS_none (c := ca) (cap := capA) (s := s1) (r := r1) (tm := false) (z := .int .i64 0) rfl rfl (by simp [go_sem, execOp, rcase, Act.eval]) hca ?_
  refine wpS_value rfl rfl (v := .int .i64 (-1)) (by simp [go_sem, execOp, Act.eval, Act.put]; rfl) ?_
  refine wpS_value rfl rfl (v := .bool false) (by simp [go_sem, execOp, Act.eval, Act.put]; rfl) ?_
  refine wpS_nil ?_
  go_frame
  go_upto_region 6 with (fail)
  refine wp_region_S ?_
  change wpS Try.prog _ _ [0, 1, 2] _ _
  refine wpS_some (c := cf) (cap := capF) (s := s0) (r := r0) (tm := false) (closed := false) (z := .int .i64 0) rfl rfl (by simp [go_sem, execOp, rcase, Act.eval]) hc (by simp) ?_
  rw [buf_head, buf_tail]
  refine wpS_value rfl rfl (v := .int .i64 0) (by simp [go_sem, execOp, Act.eval, Act.put]; rfl) ?_
  refine wpS_value rfl rfl (v := .bool true) (by simp [go_sem, execOp, Act.eval, Act.put]; rfl) ?_
  refine wpS_nil ?_
  have hs := step_setChan w T cf capF (r.map natV).toArray s0 (r0 + 1) (S := fun s => s = t) hT
  have hh := heap_setChan w cf capF (r.map natV).toArray false s0 (r0 + 1) false hlt
  generalize w.setChan cf capF (r.map natV).toArray false s0 (r0 + 1) false = w1 at *
  go_frame
  go_wp2
  go_ret2
  exact ⟨rfl, ⟨hT, _, _, hh⟩, hs⟩

set_option maxRecDepth 100000 in
set_option maxHeartbeats 400000 in
theorem next_none (ca cf capA capF : Nat) (t u : Tag) (w : World) (T : Nat → Tag) (hA : Ch w T u ca capA []) (hF : Ch w T t cf capF []) :
    Calls Try.prog 98 #[.chan (some ca), .chan (some cf)] w fun e w' => e = .returned (.tuple #[.int .i64 0, .bool false]) ∧ w' = w := by
  obtain ⟨hTa, s1, r1, hca⟩ := hA
  obtain ⟨hT, s0, r0, hc⟩ := hF
  go_enter Try.func98, Try.ntmps98
  go_upto_region 2 with (fail)
  refine wp_region_S ?_
  change wpS Try.prog _ _ [0, 1, 2] _ _
  refine wpS_none (c := ca) (cap := capA) (s := s1) (r := r1) (tm := false) (z := .int .i64 0) rfl rfl (by simp [go_sem, execOp, rcase, Act.eval]) hca ?_
  refine wpS_value rfl rfl (v := .int .i64 (-1)) (by simp [go_sem, execOp, Act.eval, Act.put]; rfl) ?_
  refine wpS_value rfl rfl (v := .bool false) (by simp [go_sem, execOp, Act.eval, Act.put]; rfl) ?_
  refine wpS_nil ?_
  go_frame
  go_upto_region 6 with (fail)
  refine wp_region_S ?_
  change wpS Try.prog _ _ [0, 1, 2] _ _
  refine wpS_none (c := cf) (cap := capF) (s := s0) (r := r0) (tm := false) (z := .int .i64 0) rfl rfl (by simp [go_sem, execOp, rcase, Act.eval]) hc ?_
  refine wpS_value rfl rfl (v := .int .i64 (-1)) (by simp [go_sem, execOp, Act.eval, Act.put]; rfl) ?_
  refine wpS_value rfl rfl (v := .bool false) (by simp [go_sem, execOp, Act.eval, Act.put]; rfl) ?_
  refine wpS_nil ?_
  go_frame
  go_wp2
  go_ret2
  exact ⟨rfl, rfl⟩

end Go.Proofs.Ytgcbooflhdjnhaa

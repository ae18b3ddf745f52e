/- The contract of the program's Group. -/
import Derived.Test.YtedbcmlekjagpaaO3
namespace Go.Proofs.Ytedbcmlekjagpaa
open Go.RowKit Go.Maps

/-- Group's error: of a name, of a start, of the groups' names, of how many messages there are. -/
def grpE (s : ByteArray) (from_ : Int) (names : List ByteArray) (n : Nat) : Int :=
  bif btw s.size 1 16 then bif memB s names then 7 else bif decide (6 ≤ names.length) then 8 else bif btw from_ 0 n then 0 else 9 else 6
def grpL {α : Type} (e : Int) (l : List α) (x : α) : List α := bif decide (e = 0) then l ++ [x] else l

attribute [local go_sem] over_cell

set_option maxRecDepth 100000 in
set_option maxHeartbeats 2000000 in
theorem xgroup_any (i b : Nat) (c : Conf) (bodies : List Value) (names : List ByteArray) (s : ByteArray) (fr : Int) (w : World) (T : Nat → Tag) (hx : XQ w T i b c bodies names) :
    Calls Try.prog 52 #[.pointer (some ⟨b, 0, none⟩), .string s, .int .i64 fr] w fun e w' => e = .returned (.int .i64 (grpE s fr names bodies.length)) ∧
      ∃ T', Step (fun t => ∃ r, t = .x i r) w T w' T' ∧ XQ w' T' i b c bodies (grpL (grpE s fr names bodies.length) names s) := by
  go_enter Try.func52, Try.ntmps52
  go_wp2_with fail
  refine (isName_any _ _).mono ?_
  rintro e w1 ⟨rfl, hb1⟩
  have f1 : Step (fun t => ∃ r, t = .x i r) w T w1 T := step_below _ T hb1
  replace hx := hx.step (step_below (fun _ => False) T hb1) (fun _ h => h)
  clear hb1
  cases h1 : btw s.size 1 16
  · go_wp2
    go_ret
    exact ⟨by simp [grpE, h1], T, f1, by simpa [grpE, grpL, h1] using hx⟩
  have hx0 := hx
  obtain ⟨hs, hnd, vB, m, n, hB, hR, hTm, hM⟩ := hx
  have hlt := hB.lt
  have c6 := hB.cell (j := 6) rfl
  simp only [List.getElem_toArray, List.getElem_cons_succ, List.getElem_cons_zero] at c6
  have hl16 := (btw_true h1).2
  have hkey : keyOf Try.prog 9 (.string s) = some (keyL s) := Go.WideMaps.keyOf_string_mk Try.underlying9 (by unfold maxLen; omega)
  have hsz := size_names names hnd
  cases h2 : memB s names
  case true =>
    have hat := (atKey_names s names).1 (memB_iff.1 h2)
    go_wp2_with (first
      | (at_lookup; refine wpList_lookup_yes _ rfl _ _ 86 rfl 9 109 law9 Try.underlying86 (zero109 _) m n _ rfl hM _ _ rfl hkey hat ?_; intro p)
      | go_in)
    go_ret
    exact ⟨by simp [grpE, h1, h2], T, f1, by simpa [grpE, grpL, h1, h2] using hx0⟩
  have hat := (atKey_names s names).2 (memB_not.1 h2)
  by_cases h3 : 6 ≤ names.length
  · go_wp2_with (first
      | (at_lookup; refine wpList_lookup_no _ rfl _ _ 86 rfl 9 109 law9 Try.underlying86 (zero109 _) m n _ rfl hM _ _ rfl hkey hat ?_)
      | (at_len; refine wpList_len_own _ rfl _ 86 rfl 9 109 Try.underlying86 _ m n _ rfl hM ?_; rw [hsz])
      | go_in)
    go_ret
    exact ⟨by simp [grpE, h1, h2, h3], T, f1, by simpa [grpE, grpL, h1, h2, h3] using hx0⟩
  have c4 := hB.cell (j := 4) rfl
  simp only [List.getElem_toArray, List.getElem_cons_succ, List.getElem_cons_zero] at c4
  go_wp2_with (first
    | (at_lookup; refine wpList_lookup_no _ rfl _ _ 86 rfl 9 109 law9 Try.underlying86 (zero109 _) m n _ rfl hM _ _ rfl hkey hat ?_)
    | (at_len; refine wpList_len_own _ rfl _ 86 rfl 9 109 Try.underlying86 _ m n _ rfl hM ?_; rw [hsz])
    | go_in)
  refine wp_region_over (by kernel_rfl) (by kernel_rfl) ?_
  repeat (go_big_quiet_step (first
    | (go_at_call 34; exact quiet_over_at (xend_any i b c bodies names _ T (hx0.step (step_below (fun _ => False) T (over_below _ _)) (fun _ h => h))))
    | (go_at_call 59; exact quiet_over (fun w1 => between_any _ _ _ w1))))
  refine wpQuiet_nil ?_
  rintro _ ⟨x, rfl⟩
  have hb2 := over_below w1 x
  generalize over w1 x = w2 at *
  have g2 := step_below (fun _ => False) T hb2
  replace f1 := f1.trans (step_below _ T hb2)
  replace hx0 := hx0.step g2 (fun _ h => h)
  replace hB := hB.step g2 (fun h => h)
  replace hR := hR.step g2 (fun h => h)
  replace hM := ownsMap_step hM g2 (fun h => h)
  clear c4 c6 hlt g2 hb2
  cases h4 : btw fr 0 bodies.length
  · go_wp2
    go_ret
    exact ⟨by simp [grpE, h1, h2, h3, h4], T, f1, by simpa [grpE, grpL, h1, h2, h3, h4] using hx0⟩
  have hlt := hB.lt
  have c6 := hB.cell (j := 6) rfl
  simp only [List.getElem_toArray, List.getElem_cons_succ, List.getElem_cons_zero] at c6
  have hal := step_alloc w2 T (.cells #[.int .i64 fr] 111) (fun _ => False)
  have hM1 := ownsMap_tight (ownsMap_step hM hal (fun h => h))
  rw [hsz] at hM1
  go_wp2_with (first
    | (at_mapUpdate; refine wpList_mapUpdate_own _ rfl _ _ _ 86 rfl 9 109 law9 Try.underlying86 _ m _ _ rfl hM1 (by unfold maxLen; omega) _ _ _ rfl rfl hkey (.lit (.bool true)) [] rfl ?_; intro w3 hM3 hg3)
    | go_in)
  go_ret
  have e0 : grpE s fr names bodies.length = 0 := by simp [grpE, h1, h2, h3, h4]
  have hs3 : Step (fun t => t = .x i 2) (w2.alloc (.cells #[.int .i64 fr] 111)) T w3 T := step_grown hg3 (fun k hk => by cases hk; exact hTm) (fun _ _ => rfl)
  refine ⟨by rw [e0]; rfl, T, f1.trans ((step_alloc _ _ _ _).trans (hs3.mono (fun t ht => ⟨2, ht⟩))), hs, ?_, vB, m, names.length + 1, (hB.step hal (fun h => h)).step hs3 (by simp), (hR.step hal (fun h => h)).step hs3 (by simp), hTm, ?_⟩
  · rw [e0]
    exact List.nodup_append.2 ⟨hnd, by simp, fun a ha b hb e => by simp at hb; subst hb; subst e; exact memB_not.1 h2 ha⟩
  · rw [e0]
    show w3.ownsMap _ _ _ _ _ (namesD (names ++ [s]))
    rw [namesD_snoc]
    exact hM3

end Go.Proofs.Ytedbcmlekjagpaa

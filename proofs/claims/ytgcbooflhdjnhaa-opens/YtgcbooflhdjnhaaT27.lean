/- The law's world over any queue that keeps the contracts: what it is, and what a call leaves of it. -/
import Derived.Test.YtgcbooflhdjnhaaT25
import Derived.Test.YtgcbooflhdjnhaaT26
import Derived.Test.YtgcbooflhdjnhaaT22
import Derived.Test.YtgcbooflhdjnhaaT24
namespace Go.Proofs.Ytgcbooflhdjnhaa
open Go.RowKit

abbrev wtCells (c d : Conf) (vP vr vd : Value) (most : Int) : Array Value := #[.int .i64 c.l, .int .i64 c.d, .int .i64 c.s, .int .i64 c.k, .int .i64 d.l, .int .i64 d.d, .int .i64 d.s, .int .i64 d.k, vP, vr, vd, .int .i64 most]

/-- The law's world in block wb: its two configurations, its pairs, its book (q lists of ranges, q' of deliveries). -/
structure WT (X : World → (Nat → Tag) → Nat → Nat → MQ → Prop) (B : Int) (w : World) (T : Nat → Tag) (wb : Nat) (c d : Conf) (most : Int) (ps : List Nat) (q q' : Nat) : Prop where
  blk : ∃ vP vr vd, Blk w T .world wb (wtCells c d vP vr vd most) 50 ∧ Row w T .row 57 1 vP ps.length (ps.map ptrV) ∧
    Bk w T 9 22 2 (fun q => patOf (markRV q)) vr q ∧ Bk w T 11 87 3 (fun q => patOf (markDV q)) vd q'
  prs : ∀ i p, ps[i]? = some p → PairT X B w T i p

theorem PairT.mono {X : World → (Nat → Tag) → Nat → Nat → MQ → Prop} {B B' : Int} {w : World} {T : Nat → Tag} {i p : Nat} (h : PairT X B w T i p) (hB : B ≤ B') : PairT X B' w T i p := by
  obtain ⟨bx, yb, m, vs, lg, h1, h2, h3, h4⟩ := h
  exact ⟨bx, yb, m, vs, lg, h1, h2, h3, h4.mono hB⟩
theorem WT.mono {X : World → (Nat → Tag) → Nat → Nat → MQ → Prop} {B B' : Int} {w : World} {T : Nat → Tag} {wb : Nat} {c d : Conf} {most : Int} {ps : List Nat} {q q' : Nat} (h : WT X B w T wb c d most ps q q') (hB : B ≤ B') : WT X B' w T wb c d most ps q q' :=
  ⟨h.blk, fun i p hi => (h.prs i p hi).mono hB⟩
theorem WT.step {X : World → (Nat → Tag) → Nat → Nat → MQ → Prop} {B Bm : Int} (hX : XC X Bm) {S : Tag → Prop} {w w' : World} {T T' : Nat → Tag} {wb : Nat} {c d : Conf} {most : Int} {ps : List Nat} {q q' : Nat} (h : WT X B w T wb c d most ps q q') (hs : Step S w T w' T') (hS : ∀ t, ¬ S t) : WT X B w' T' wb c d most ps q q' := by
  obtain ⟨⟨vP, vr, vd, h1, h2, h3, h4⟩, h5⟩ := h
  exact ⟨⟨vP, vr, vd, h1.step hs (hS _), h2.step hs (hS _), h3.step hs (hS _) (fun _ _ => hS _), h4.step hs (hS _) (fun _ _ => hS _)⟩, fun i p hi => (h5 i p hi).step hX hs (hS _) (fun _ _ => hS _) (fun _ _ => hS _)⟩

/-- The tags that a call at the pair of number k may write. -/
def CallS (k : Nat) (t : Tag) : Prop := ST k t ∨ t = .world ∨ (8 ≤ t.c ∧ t.c ≤ 13)

/-- the pairs behind a call at one of them -/
theorem pairs_next {X : World → (Nat → Tag) → Nat → Nat → MQ → Prop} {B Bm : Int} (hX : XC X Bm) {S : Tag → Prop} {w w' : World} {T T' : Nat → Tag} {ps : List Nat} {k p : Nat} (h : ∀ i p, ps[i]? = some p → PairT X B w T i p) (hs : Step S w T w' T') (hS : ∀ t, S t → CallS k t) (hk : ps[k]? = some p) (hp : PairT X B w' T' k p) : ∀ i p, ps[i]? = some p → PairT X B w' T' i p := by
  intro i x hi
  by_cases hik : i = k
  · subst hik
    rw [hk] at hi
    cases hi
    exact hp
  · refine (h i x hi).step hX hs (fun h1 => ?_) (fun t h0 h1 => ?_) (fun r j h1 => ?_)
    · rcases hS _ h1 with (h | ⟨r, j, h⟩) | h | h
      · exact absurd h.1 (by simp)
      · cases h
      · cases h
      · have := h.1; simp at this
    · rcases hS _ h1 with (h | ⟨r, j, h⟩) | h | h
      · exact hik (h0.2.symm.trans h.2)
      · rw [h] at h0; exact absurd h0.1 (by simp)
      · rw [h] at h0; exact absurd h0.1 (by simp)
      · have := h0.1; omega
    · rcases hS _ h1 with (h | ⟨r', j', h⟩) | h | h
      · exact absurd h.1 (by simp)
      · exact hik (by cases h; rfl)
      · cases h
      · have := h.1; simp at this

/-- what a call leaves; the book grows by no more than G -/
def CallPostG (G : Nat) (X : World → (Nat → Tag) → Nat → Nat → MQ → Prop) (B : Int) (w : World) (T : Nat → Tag) (wb : Nat) (c d : Conf) (most : Int) (ps : List Nat) (q q' : Nat) (e : Ending) (w' : World) : Prop :=
  e = .returned (.bool true) ∧ ∃ T' q1 q1', Step (fun t => t ≠ .old) w T w' T' ∧ WT X B w' T' wb c d most ps q1 q1' ∧ q1 ≤ q + G ∧ q1' ≤ q' + G
abbrev CallPost (X : World → (Nat → Tag) → Nat → Nat → MQ → Prop) (B : Int) (w : World) (T : Nat → Tag) (wb : Nat) (c d : Conf) (most : Int) (ps : List Nat) (q q' : Nat) (e : Ending) (w' : World) : Prop := CallPostG 2 X B w T wb c d most ps q q' e w'

theorem callS_old {k : Nat} {t : Tag} (h : CallS k t) : t ≠ .old := by
  rintro rfl
  rcases h with (h | ⟨r, j, h⟩) | h | h
  · exact absurd h.1 (by simp)
  · cases h
  · cases h
  · have := h.1; simp at this

/-- a call that touches the queues alone -/
theorem post_queues {G : Nat} {X : World → (Nat → Tag) → Nat → Nat → MQ → Prop} {B B' Bm : Int} (hX : XC X Bm) (hBB : B ≤ B') {w w' : World} {T T' : Nat → Tag} {wb : Nat} {c d : Conf} {most : Int} {ps : List Nat} {q q' k p : Nat} (h : WT X B w T wb c d most ps q q') (hk : ps[k]? = some p) (hs : Step (ST k) w T w' T') (hp : PairT X B' w' T' k p) :
    CallPostG G X B' w T wb c d most ps q q' (.returned (.bool true)) w' := by
  obtain ⟨⟨vP, vr, vd, h1, h2, h3, h4⟩, h5⟩ := h
  have n : ∀ t : Tag, t.c ≠ 5 → t.c ≠ 6 → ¬ ST k t := by
    rintro t a b (h | ⟨r, j, rfl⟩)
    · exact a h.1
    · exact b rfl
  refine ⟨rfl, T', q, q', hs.mono (fun t ht => callS_old (.inl ht)), ⟨⟨vP, vr, vd, h1.step hs (n _ (by simp) (by simp)), h2.step hs (n _ (by simp) (by simp)), h3.step hs (n _ (by simp) (by simp)) (fun _ _ => n _ (by simp) (by simp)), h4.step hs (n _ (by simp) (by simp)) (fun _ _ => n _ (by simp) (by simp))⟩, ?_⟩, by omega, by omega⟩
  exact pairs_next hX (fun i p hi => (h5 i p hi).mono hBB) hs (fun t ht => .inl ht) hk hp

/-- a call that keeps two lists of ranges -/
theorem post_done {X : World → (Nat → Tag) → Nat → Nat → MQ → Prop} {B B' Bm : Int} (hX : XC X Bm) (hBB : B ≤ B') {w w' : World} {T T' : Nat → Tag} {wb : Nat} {c d : Conf} {most : Int} {ps : List Nat} {q q' k p : Nat} {vP vr vd vr' : Value}
    (h2 : Row w T .row 57 1 vP ps.length (ps.map ptrV)) (h4 : Bk w T 11 87 3 (fun q => patOf (markDV q)) vd q') (h5 : ∀ i p, ps[i]? = some p → PairT X B w T i p) (hk : ps[k]? = some p) (hs : Step (ToldS k 9 q) w T w' T') (hp : PairT X B w' T' k p)
    (hW : Blk w' T' .world wb ((wtCells c d vP vr vd most).setIfInBounds 9 vr') 50) (hR : Bk w' T' 9 22 2 (fun q => patOf (markRV q)) vr' (q + 2)) :
    CallPost X B' w T wb c d most ps q q' (.returned (.bool true)) w' := by
  have n : ∀ t : Tag, ToldS k 9 q t → CallS k t := by
    rintro t (h | (rfl | rfl | rfl) | (rfl | rfl | rfl) | rfl)
    · exact .inl h
    · exact .inr (.inl rfl)
    · exact .inr (.inr (by decide))
    · exact .inr (.inr ⟨by simp, by simp⟩)
    · exact .inr (.inl rfl)
    · exact .inr (.inr (by decide))
    · exact .inr (.inr ⟨by simp, by simp⟩)
    · exact .inr (.inr (by decide))
  refine ⟨rfl, T', q + 2, q', hs.mono (fun t ht => callS_old (n t ht)), ⟨⟨vP, vr', vd, hW, h2.step hs (by simp [ToldS, ST, XT, YT, KeepS]), hR, h4.step hs (by simp [ToldS, ST, XT, YT, KeepS]) (fun _ _ => by simp [ToldS, ST, XT, YT, KeepS])⟩, fun i p hi => ?_⟩, by omega, by omega⟩
  exact (pairs_next hX h5 hs n hk hp i p hi).mono hBB
/-- a call that keeps two lists of deliveries -/
theorem post_dead {X : World → (Nat → Tag) → Nat → Nat → MQ → Prop} {B B' Bm : Int} (hX : XC X Bm) (hBB : B ≤ B') {w w' : World} {T T' : Nat → Tag} {wb : Nat} {c d : Conf} {most : Int} {ps : List Nat} {q q' k p : Nat} {vP vr vd vd' : Value}
    (h2 : Row w T .row 57 1 vP ps.length (ps.map ptrV)) (h3 : Bk w T 9 22 2 (fun q => patOf (markRV q)) vr q) (h5 : ∀ i p, ps[i]? = some p → PairT X B w T i p) (hk : ps[k]? = some p) (hs : Step (ToldS k 11 q') w T w' T') (hp : PairT X B w' T' k p)
    (hW : Blk w' T' .world wb ((wtCells c d vP vr vd most).setIfInBounds 10 vd') 50) (hD : Bk w' T' 11 87 3 (fun q => patOf (markDV q)) vd' (q' + 2)) :
    CallPost X B' w T wb c d most ps q q' (.returned (.bool true)) w' := by
  have n : ∀ t : Tag, ToldS k 11 q' t → CallS k t := by
    rintro t (h | (rfl | rfl | rfl) | (rfl | rfl | rfl) | rfl)
    · exact .inl h
    · exact .inr (.inl rfl)
    · exact .inr (.inr (by decide))
    · exact .inr (.inr ⟨by simp, by simp⟩)
    · exact .inr (.inl rfl)
    · exact .inr (.inr (by decide))
    · exact .inr (.inr ⟨by simp, by simp⟩)
    · exact .inr (.inr (by decide))
  refine ⟨rfl, T', q, q' + 2, hs.mono (fun t ht => callS_old (n t ht)), ⟨⟨vP, vr, vd', hW, h2.step hs (by simp [ToldS, ST, XT, YT, KeepS]), h3.step hs (by simp [ToldS, ST, XT, YT, KeepS]) (fun _ _ => by simp [ToldS, ST, XT, YT, KeepS]), hD⟩, fun i p hi => ?_⟩, by omega, by omega⟩
  exact (pairs_next hX h5 hs n hk hp i p hi).mono hBB

end Go.Proofs.Ytgcbooflhdjnhaa

/- The contract of call at every kind, over any queue that keeps the contracts. -/
namespace Go.Proofs.Ytgcbooflhdjnhaa
open Go.RowKit

/-- a call that keeps one list of deliveries -/
theorem post_recv {X : World → (Nat → Tag) → Nat → Nat → MQ → Prop} {B B' Bm : Int} (hX : XC X Bm) (hBB : B ≤ B') {w w' : World} {T T' : Nat → Tag} {wb : Nat} {c d : Conf} {most : Int} {ps : List Nat} {q q' k p : Nat} {vP vr vd vd' : Value}
    (h2 : Row w T .row 57 1 vP ps.length (ps.map ptrV)) (h3 : Bk w T 9 22 2 (fun q => patOf (markRV q)) vr q) (h5 : ∀ i p, ps[i]? = some p → PairT X B w T i p) (hk : ps[k]? = some p) (hs : Step (AskS k 11 q') w T w' T') (hp : PairT X B w' T' k p)
    (hW : Blk w' T' .world wb ((wtCells c d vP vr vd most).setIfInBounds 10 vd') 50) (hD : Bk w' T' 11 87 3 (fun q => patOf (markDV q)) vd' (q' + 1)) :
    CallPost X B' w T wb c d most ps q q' (.returned (.bool true)) w' := by
  have n : ∀ t : Tag, AskS k 11 q' t → CallS k t := by
    rintro t (h | (rfl | rfl | rfl) | rfl | rfl)
    · exact .inl h
    · exact .inr (.inl rfl)
    · exact .inr (.inr (by decide))
    · exact .inr (.inr ⟨by simp, by simp⟩)
    · exact .inr (.inr (by decide))
    · exact .inr (.inr (by decide))
  refine ⟨rfl, T', q, q' + 1, hs.mono (fun t ht => callS_old (n t ht)), ⟨⟨vP, vr, vd', hW, h2.step hs (by simp [AskS, ST, XT, YT, KeepS]), h3.step hs (by simp [AskS, ST, XT, YT, KeepS]) (fun _ _ => by simp [AskS, ST, XT, YT, KeepS]), hD⟩, fun i p hi => ?_⟩, by omega, by omega⟩
  exact (pairs_next hX h5 hs n hk hp i p hi).mono hBB

theorem callT_any {X : World → (Nat → Tag) → Nat → Nat → MQ → Prop} {B Bm : Int} (hX : XC X Bm) (hle : B ≤ Bm) (hlm : B ≤ 3999999999999940000) (wb : Nat) (c d : Conf) (most : Int) (ps : List Nat) (q q' k p : Nat) (kind qu : Int) (nm bd : ByteArray) (n tr ms : Int) (yes : Bool) (w : World) (T : Nat → Tag)
    (hw : WT X B w T wb c d most ps q q') (hk : ps[k]? = some p) (hkind : 2 ≤ kind ∧ kind ≤ 12) (hq : q ≤ 900000000) (hq' : q' ≤ 900000000) :
    Calls Try.prog 45 #[.pointer (some ⟨wb, 0, none⟩), .pointer (some ⟨p, 0, none⟩), .agg (opCells kind qu nm bd n tr ms yes)] w (CallPost X (B + 60000) w T wb c d most ps q q') := by
  have hp := hw.prs k p hk
  have hBB : B ≤ B + 60000 := by omega
  have fin : ∀ {e : Ending} {w' : World}, (e = .returned (.bool true) ∧ ∃ T', Step (ST k) w T w' T' ∧ PairT X B w' T' k p) → CallPost X (B + 60000) w T wb c d most ps q q' e w' := by
    rintro e w' ⟨rfl, T', hs, hp'⟩
    exact post_queues hX hBB hw hk hs (hp'.mono hBB)
  obtain ⟨⟨vP, vr, vd, h1, h2, h3, h4⟩, h5⟩ := id hw
  have hK : kind = 2 ∨ kind = 3 ∨ kind = 4 ∨ kind = 5 ∨ kind = 6 ∨ kind = 7 ∨ kind = 8 ∨ kind = 9 ∨ kind = 10 ∨ kind = 11 ∨ kind = 12 := by omega
  rcases hK with rfl | rfl | rfl | rfl | rfl | rfl | rfl | rfl | rfl | rfl | rfl
  · exact (callT_enq hX hle k p _ qu nm bd n tr ms yes w T hp).mono (fun _ _ h => fin h)
  · exact (callT_grp hX hle k p _ qu nm bd n tr ms yes w T hp).mono (fun _ _ h => fin h)
  · refine (callT_recv hX hle k p wb _ vd q' qu nm bd n tr ms yes w T hp h1 rfl h4 (by omega)).mono ?_
    rintro e w' ⟨rfl, T', vd', hs, hp', hW, hD⟩
    exact post_recv hX hBB h2 h3 h5 hk hs hp' hW hD
  · exact (callT_leases hX k p wb 5 (by omega) qu nm bd n tr ms yes w T hp (fun w T h => leases_ack hX hle k p qu nm bd n tr ms yes w T h)).mono (fun _ _ h => fin h)
  · exact (callT_leases hX k p wb 6 (by omega) qu nm bd n tr ms yes w T hp (fun w T h => leases_nack hX hle k p qu nm bd n tr ms yes w T h)).mono (fun _ _ h => fin h)
  · exact (callT_leases hX k p wb 7 (by omega) qu nm bd n tr ms yes w T hp (fun w T h => leases_extend hX hle k p qu nm bd n tr ms yes w T h)).mono (fun _ _ h => fin h)
  · refine (callT_leases hX k p wb 8 (by omega) qu nm bd n tr ms yes w T hp (fun w T h => leases_tick hX hle hlm k p qu nm bd n tr ms yes w T h)).mono ?_
    rintro e w' ⟨rfl, T', hs, hp'⟩
    exact post_queues hX hBB hw hk hs hp'
  · refine (callT_done hX hle k p wb _ vr q qu nm bd n tr ms yes w T hp h1 rfl h3 hq).mono ?_
    rintro e w' ⟨rfl, T', vr', hs, hp', hW, hR⟩
    exact post_done hX hBB h2 h4 h5 hk hs hp' hW hR
  · refine (callT_dead hX hle k p wb _ vd q' qu nm bd n tr ms yes w T hp h1 rfl h4 hq').mono ?_
    rintro e w' ⟨rfl, T', vd', hs, hp', hW, hD⟩
    exact post_dead hX hBB h2 h3 h5 hk hs hp' hW hD
  · refine (callT_span hX hle k p wb qu nm bd n tr ms yes w T hp).mono ?_
    rintro e w' ⟨rfl, T', hs, hp'⟩
    exact fin ⟨rfl, T', hs.mono (fun _ h => .inl h), hp'⟩
  · exact (callT_ret hX hle k p _ qu nm bd n tr ms yes w T hp).mono (fun _ _ h => fin h)

end Go.Proofs.Ytgcbooflhdjnhaa

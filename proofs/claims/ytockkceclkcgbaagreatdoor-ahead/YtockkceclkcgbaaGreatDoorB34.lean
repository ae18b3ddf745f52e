/- The contract of the program's Receive, over the document's queue that it tells. -/
import Derived.Test.YtockkceclkcgbaaGreatDoorB33
import Derived.Deep.RegionHeld3
namespace Go.Proofs.YtockkceclkcgbaaGreatDoor
open Go.RowKit Go.Maps
variable {vL vS : Value} {lg : Bs}

theorem take_step {m : MQ} {start n : Int} {v : Nat} {r : List Nat} {st : RS} (h : ¬ n ≤ st.out.length) : takeV m start n (v :: r) st = takeV m start n r (visit m start st v) := by simp [takeV, h]

theorem ownsRow_step {S : Tag → Prop} {w w' : World} {T T' : Nat → Tag} {t : Tag} {base : Nat} {e : TypeId} {size : Nat} {v : Value} {n : Nat} {xs : List Value} (h : w.ownsRow base e size v n xs) (hs : Step S w T w' T') (hT : ∀ g, v.ownBlock = some g → T g = t) (ht : ¬ S t) : w'.ownsRow base e size v n xs := by
  refine ⟨h.1, ?_⟩
  rcases h.2 with hn | ⟨g, cap, cur, rfl, hb, hgg, rest⟩
  · exact .inl hn
  · refine .inr ⟨g, cap, cur, rfl, hb, ?_, rest⟩
    have h1 := (Array.getElem?_eq_some_iff.1 hgg).1
    rw [hs.block g h1 (by rw [hT g rfl]; exact ht)]
    exact hgg
theorem nSG3 {i k : Nat} : ¬ SG i k (.q i 0 3) := nSG (by decide)
theorem cells_new3 (w : World) (a b c : Value) (e : TypeId) : ∀ j u, [a, b, c][j]? = some u → (w.alloc (.cells #[a, b, c] e)).cell? ((⟨w.heap.size, 0, none⟩ : Addr).add j) = some u := cells_new5 w [a, b, c] e

/-- what is left to look at stays as it was -/
theorem cand_rest {m : MQ} {g : MG} {v : Nat} {rest : List Nat} {st : RS} (hnod : (v :: rest).Nodup) (hc : ∀ u ∈ v :: rest, ∃ x, st.items[u]? = some x ∧ passed m g.start u x = false) : ∀ u ∈ rest, ∃ x, (visit m g.start st v).items[u]? = some x ∧ passed m g.start u x = false := fun u hu => by
  obtain ⟨x, h1, h2⟩ := hc u (by simp [hu])
  have hne : u ≠ v := fun e => (List.nodup_cons.1 hnod).1 (by rw [← e]; exact hu)
  exact ⟨x, (visit_items hne).trans h1, h2⟩

/-- at the end the list is given away: it bears whatever tag -/
theorem give_away {w0 wr : World} {T T' : Nat → Tag} {i b : Nat} {m : MQ} {l : List Dl} {ao : Option Addr} {cap : Nat} (t : Tag) (hs : Step (XT i) w0 T wr T') (hx : XM wr T' i b m vL vS lg)
    (hR : Row wr T' (.q i 0 3) 82 3 (.slice ao l.length cap) l.length (dlVals l)) (hown : wr.ownsRow w0.heap.size 82 3 (.slice ao l.length cap) l.length (dlVals l)) :
    ∃ T'', Step (XT i) w0 T wr T'' ∧ XM wr T'' i b m vL vS lg ∧ Row wr T'' t 82 3 (.slice ao l.length cap) l.length (dlVals l) := by
  rcases hown.2 with ⟨h1, h2⟩ | ⟨g, cap', cur, h1, hb, rest⟩
  · have hao : ao = none := by
      have h3 := h1
      simp at h3
      exact h3.1
    exact ⟨T', hs, hx, hR.1, fun g hg => by rw [hao] at hg; simp [Value.ownBlock] at hg⟩
  · cases h1
    have hg : T' g = .q i 0 3 := hR.2 g rfl
    refine ⟨retag T' g t, ?_, hx.retag hg, hR.1, fun g' hg' => ?_⟩
    · have h := hs
      exact ⟨h.os, h.tape, h.output, h.size, fun j hj => (retag_other T' g t (by omega)).trans (h.tag j hj), h.block⟩
    · simp [Value.ownBlock] at hg'
      subst hg'
      exact retag_same _ _ _

/-- what a Receive looks at: delivers, or lets die -/
def servedTo (m : MQ) (start n : Int) : List Nat → RS → List Nat
  | [], _ => []
  | v :: r, st => bif decide (n ≤ st.out.length) then [] else v :: servedTo m start n r (visit m start st v)
def servedAll (m : MQ) (g : MG) (n : Int) : List Nat := servedTo m g.start n (againTo m g m.bodies.length ++ newTo m g m.bodies.length) ⟨g.items, g.dead, m.changes, []⟩
def offsI (l : List Nat) : List Int := l.map Int.ofNat
theorem offsI_length (l : List Nat) : (offsI l).length = l.length := by simp [offsI]
def servedL (m : MQ) (s : ByteArray) (n : Int) : List Int := match m.at s with
  | none => []
  | some k => match m.groups[k]? with
    | none => []
    | some g => bif btw n 1 32 then offsI (servedAll m g n) else []
theorem served_full {m : MQ} {start n : Int} {st : RS} (h : n ≤ st.out.length) (l : List Nat) : servedTo m start n l st = [] := by
  cases l with
  | nil => rfl
  | cons v r => simp [servedTo, h]
theorem served_step {m : MQ} {start n : Int} {v : Nat} {r : List Nat} {st : RS} (h : ¬ n ≤ st.out.length) : servedTo m start n (v :: r) st = v :: servedTo m start n r (visit m start st v) := by simp [servedTo, h]
theorem infoIntJ : (Tryz.prog.info? 3).map (fun i => (i.zero, i.size, i.bytes)) = some (some (.int .i64 0), 1, 8) := by kernel_rfl
def intsV (l : List Nat) : List Value := l.map natV
theorem ints_same (l : List Nat) : l.map natV = (offsI l).map intV := by
  rw [offsI, List.map_map]
  rfl

set_option maxRecDepth 100000 in
set_option maxHeartbeats 4000000 in
theorem xrecv_any (i b : Nat) (m : MQ) (s : ByteArray) (n : Int) (t : Tag) (w : World) (T : Nat → Tag) {ls : Nat} (hx : XM w T i b m vL (.int .u32 ls) lg) {B : Int} (hfit : m.Fit B) (_hB4 : B ≤ 3999999999999940000) (hls : ls < 4294967296) (hll : lg.length ≤ 100000000000) : Calls Tryz.prog 30 #[.pointer (some ⟨b, 0, none⟩), .string s, .int .i64 n] w fun e w' =>
      ∃ ao cap, e = .returned (.tuple #[.slice ao (recvL m s n).length cap, .int .i64 (recvE m s n)]) ∧ ∃ T' vL', Step (XT i) w T w' T' ∧ XM w' T' i b (recvM m s n) vL' (.int .u32 (logS (!(servedL m s n).isEmpty) ls 114 (namedB s (servedL m s n)))) (logL (!(servedL m s n).isEmpty) lg ls 114 (namedB s (servedL m s n))) ∧ Row w' T' t 82 3 (.slice ao (recvL m s n).length cap) (recvL m s n).length (dlVals (recvL m s n)) := by
  have hok := hfit.ok
  obtain ⟨vB, mb, f, ps, hB, hS, hN, hG, lk, hL⟩ := hx.find
  have lb := hB.lt
  have c7 := hB.cell (j := 7) rfl
  simp only [List.getElem_toArray, List.getElem_cons_succ, List.getElem_cons_zero] at c7
  have lks := lk s
  clear lk
  cases ha : m.at s with
  | none =>
    have e1 : recvL m s n = [] := by simp [recvL, ha]
    have e2 : Hid (recvE m s n = 10) := hide (by simp [recvE, ha])
    have e3 : recvM m s n = m := by simp [recvM, ha]
    have e4 : servedL m s n = [] := by simp [servedL, ha]
    rw [e1, e3, e4]
    rw [ha] at lks
    simp only [Option.map_none, ptrO] at lks
    go_enter Tryz.func30, Tryz.ntmps30
    go_wp2
    go_ret2
    exact ⟨none, 0, by rw [e2.out]; rfl, T, vL, Step.refl _ _ _, hx, row_nil _ _ _ _ _⟩
  | some k =>
    have hsz : s.size ≤ 16 := hx.short s (List.mem_of_getElem? (idx_some ha))
    rw [ha] at lks
    simp only [Option.map_some, ptrO, ptrV] at lks
    obtain ⟨g, hg, _⟩ := at_group ha
    obtain ⟨hGk, hr⟩ := hG k g hg
    have hgm := List.mem_of_getElem? hg
    have hsm := hx.small
    have hfl := hok.fl
    have ht := hok.time
    have hlen := hok.len g hgm
    have hst := hok.start g hgm
    have hinv := hx.inv g hgm
    have hgood := hok.good
    simp only [goodC, Bool.and_eq_true] at hgood
    have hcl := btw_true hgood.1
    have hcd := btw_true hgood.2.1
    clear hgood
    go_enter Tryz.func30, Tryz.ntmps30
    go_wp2_with fail
    refine (between_any _ _ _ _).mono ?_
    rintro e w0 ⟨rfl, hb0⟩
    have g0 := step_below (fun _ => False) T hb0
    replace hx := hx.below hb0
    replace hB := hB.step g0 (fun h => h)
    replace hS := hS.step g0 (fun h => h)
    replace hN := hN.step g0 (fun h => h)
    replace hL := hL.step g0 (fun h => h)
    replace hGk := hGk.step g0 (fun _ _ h => h)
    replace hG : ∀ k g, m.groups[k]? = some g → GM w0 T i k (f k) (ps k) ∧ RelG m g (ps k) := fun k g h => ⟨(hG k g h).1.step g0 (fun _ _ h => h), (hG k g h).2⟩
    clear c7 lks lb g0
    cases hn : btw n 1 32
    · have e1 : recvL m s n = [] := by simp [recvL, ha, hg, hn]
      have e2 : Hid (recvE m s n = 11) := hide (by simp [recvE, ha, hn])
      have e3 : recvM m s n = m := by simp [recvM, ha, hg, hn]
      have e4 : Hid (servedL m s n = []) := hide (by simp [servedL, ha, hg, hn])
      replace e1 := hide e1
      replace e3 := hide e3
      go_wp2
      go_ret2
      rw [e1.out, e2.out, e3.out, e4.out]
      exact ⟨none, 0, rfl, T, vL, step_below _ T hb0, hx, row_nil _ _ _ _ _⟩
    have hn2 := btw_true hn
    have e1 : Hid (recvL m s n = (recvAll m g n).out) := hide (by simp [recvL, ha, hg, hn])
    have e2 : Hid (recvE m s n = 0) := hide (by simp [recvE, ha, hn])
    have e3 : Hid (recvM m s n = m.setG k (recvAll m g n)) := hide (by simp [recvM, ha, hg, hn])
    have e4 : Hid (servedL m s n = offsI (servedAll m g n)) := hide (by simp [servedL, ha, hg, hn])
    go_wp2_with fail
    refine (ready_any i k b (f k) m g (ps k) vB _ _ _ w0 T hB hS hGk hr hinv hlen hsm hfl.1 hfl.2 hst.1 hst.2).mono ?_
    rintro e w1 ⟨ca, cf, rfl, T1, hs1, hA1, hF1⟩
    have htake := hide (recvAll_take (m := m) (g := g) (n := n) hlen)
    have hnod := hide (take_nodup m g m.bodies.length)
    have hcand : Hid (∀ v ∈ againTo m g m.bodies.length ++ newTo m g m.bodies.length, ∃ x, g.items[v]? = some x ∧ passed m g.start v x = false) := hide (fun v hv => take_cand hv)
    have hGk1 := hGk.step hs1 (fun _ _ h => h)
    go_wp2_with fail
    go_loopw [11, 12] (fun u11 u12 wr => ∃ (st : RS) (A F sv : List Nat) (T' : Nat → Tag) (ao so : Option Addr) (cap sc : Nat) (p : PG), u11 = .slice ao st.out.length cap ∧ u12 = .slice so sv.length sc ∧ Row wr T' (.q i 0 4) 3 1 (.slice so sv.length sc) sv.length (sv.map natV) ∧ Hid (servedAll m g n = sv ++ servedTo m g.start n (A ++ F) st) ∧ sv.length + (A ++ F).length ≤ 800 ∧ (∀ v ∈ sv, v < 400) ∧ Step (SR i k) w0 T wr T' ∧ Ch wr T' (.q i 0 1) ca (m.bodies.length - m.floor.toNat) A ∧ Ch wr T' (.q i 0 2) cf (m.bodies.length - m.floor.toNat) F ∧
        GM wr T' i k (f k) p ∧ Hid (RelG (m.setG k st) (gS g st) p ∧ InvG (m.setG k st) (gS g st)) ∧ Row wr T' (.q i 0 3) 82 3 (.slice ao st.out.length cap) st.out.length (dlVals st.out) ∧ wr.ownsRow w0.heap.size 82 3 (.slice ao st.out.length cap) st.out.length (dlVals st.out) ∧
        Hid (recvAll m g n = takeV m g.start n (A ++ F) st) ∧ Hid ((A ++ F).Nodup) ∧ Hid (∀ v ∈ A ++ F, ∃ x, st.items[v]? = some x ∧ passed m g.start v x = false) ∧ Hid (st.Fit m.bodies.length) ∧ st.out.length ≤ 32)
      (fun _ _ wr => chLeft wr ca + chLeft wr cf)
    case atStart =>
      refine ⟨⟨g.items, g.dead, m.changes, []⟩, _, _, [], T1, none, none, 0, 0, ps k, rfl, rfl, row_nil _ _ _ _ _, hide rfl, ?_, by simp, hs1.mono (fun _ h => h.elim), hA1, hF1, hGk1, ?_, row_nil _ _ _ _ _, World.ownsRow_nil _ _ _ _, htake, hnod, hcand, ?_, by simp⟩
      · have q1 := againTo_few (m := m) (g := g) (k := m.bodies.length) (a := 0) (fun v hv => by omega)
        have q2 := newTo_few (m := m) (g := g) (k := m.bodies.length) (a := 0) (fun v hv => by omega)
        simp only [List.length_nil, List.length_append]
        omega
      · have e : m.setG k ⟨g.items, g.dead, m.changes, []⟩ = m := setG_self hg
        rw [e]
        exact hide ⟨hr, hinv⟩
      · exact hide ⟨hlen, hok.dead g hgm, hfit.cnt g hgm⟩
    case round =>
      clear htake hnod hcand hA1 hF1 hGk1 hs1
      obtain ⟨st, A, F, sv, T', ao, so, cap, sc, p, rfl, rfl, hSv, hsvd, hsvn, hsv4, hs, hA, hF, hGp, hrel2, hR, hown, htake, hnod, hcand, hfit2, hout⟩ := hrel
      have hnLT3 : ¬ LT i (.q i 0 3) := by simp [LT]
      have hz0 := hs.size
      have hxr : Hid (XM wr T' i b (m.setG k st) vL (.int .u32 ls) lg) := hide (hx.recv hg hs hB hS hN hG hGp hrel2.out.1 hrel2.out.2 hL)
      have hlr : b < wr.heap.size := Nat.lt_of_lt_of_le hB.lt hs.size
      have hadd : recvAll m g n = st → servedAll m g n = sv → Calls Tryz.prog 72 #[.pointer (some ⟨b, 8, none⟩), .int .u8 (114 : UInt8).toNat, .string s, .slice so sv.length sc] wr fun e w' => e = .returned (.tuple #[]) ∧
          ∃ T' vL', Step (XT i) w T w' T' ∧ XM w' T' i b (recvM m s n) vL' (.int .u32 (recS ls 114 (namedB s (servedL m s n)))) (lg ++ recB ls 114 (namedB s (servedL m s n))) ∧ Row w' T' t 82 3 (.slice ao (recvL m s n).length cap) (recvL m s n).length (dlVals (recvL m s n)) := fun hend hsve => by
        obtain ⟨a6, a7, hBq, hLq, hre⟩ := hxr.out.log
        have hSv' := hSv
        rw [ints_same] at hSv'
        have hlen : sv.length = (offsI sv).length := (offsI_length sv).symm
        rw [hlen] at hSv' ⊢
        refine (addNamed_any i b _ _ _ _ _ _ a6 a7 vL _ ls lg 114 s (.q i 0 4) (offsI sv) wr T' hBq hLq hSv' (by simp) (fun x hx' => ?_) (by omega) hls (by rw [offsI_length]; omega) (by rw [offsI_length]; omega)).mono ?_
        · obtain ⟨v, hv, rfl⟩ := List.mem_map.1 hx'
          have := hsv4 v hv
          simp only [Int.ofNat_eq_natCast]
          omega
        · rintro e w6 ⟨rfl, T6, vL6, s6, hB6, hL6⟩
          have hx6 := hre w6 T6 vL6 _ _ s6 hB6 hL6
          obtain ⟨T7, q1, q2, q3⟩ := give_away t ((hs.mono (fun _ h => SR_XT h)).trans (s6.mono (fun _ h => LT_XT h))) hx6 (hR.step s6 hnLT3) (ownsRow_step hown s6 hR.2 hnLT3)
          rw [e1.out, e3.out, e4.out, hend, hsve]
          exact ⟨rfl, T7, vL6, (step_below _ T hb0).trans q1, q2, q3⟩
      have hnone : recvAll m g n = st → servedAll m g n = [] → ∃ T'', Step (XT i) w T wr T'' ∧ XM wr T'' i b (recvM m s n) vL (.int .u32 (logS (!(servedL m s n).isEmpty) ls 114 (namedB s (servedL m s n)))) (logL (!(servedL m s n).isEmpty) lg ls 114 (namedB s (servedL m s n))) ∧ Row wr T'' t 82 3 (.slice ao (recvL m s n).length cap) (recvL m s n).length (dlVals (recvL m s n)) := fun hend hsve => by
        obtain ⟨T'', q1, q2, q3⟩ := give_away t (hs.mono (fun _ h => SR_XT h)) hxr.out hR hown
        rw [e1.out, e3.out, e4.out, hend, hsve]
        exact ⟨T'', (step_below _ T hb0).trans q1, q2, q3⟩
      have hlenL : recvAll m g n = st → (recvL m s n).length = st.out.length := fun hend => by rw [e1.out, hend]
      have hne4 : servedAll m g n = sv → sv ≠ [] → (!(servedL m s n).isEmpty) = true := fun h1 h2 => by
        rw [e4.out, h1]
        cases sv with
        | nil => exact absurd rfl h2
        | cons _ _ => rfl
      replace hadd := hide hadd
      replace hnone := hide hnone
      by_cases hfull : n ≤ st.out.length
      · have hend : Hid (recvAll m g n = st) := hide (by rw [htake.out, takeV_full hfull])
        have hsve : Hid (servedAll m g n = sv) := hide (by rw [hsvd.out, served_full hfull, List.append_nil])
        clear hs hA hF hGp hR hown hcand hnod hSv hB hS hN hG hGk hx hL hxr
        by_cases hsv0 : sv = []
        · subst hsv0
          obtain ⟨T'', q1, q2, q3⟩ := hnone.out hend.out hsve.out
          have q4 := hlenL hend.out
          replace q1 := hide q1
          replace q2 := hide q2
          replace q3 := hide q3
          go_wp2
          go_ret2
          exact ⟨ao, cap, by rw [e2.out, q4]; rfl, T'', vL, q1.out, q2.out, q3.out⟩
        · have hsvl : 0 < sv.length := List.length_pos_iff.2 hsv0
          have hadd2 := hadd.out hend.out hsve.out
          have q4 := hlenL hend.out
          have q5 := hne4 hsve.out hsv0
          replace q4 := hide q4
          replace q5 := hide q5
          clear hadd hnone hsv4
          go_wp2_with fail
          refine hadd2.mono ?_
          rintro e w6 ⟨rfl, T6, vL6, y1, y2, y3⟩
          replace y1 := hide y1
          replace y2 := hide y2
          replace y3 := hide y3
          go_wp2
          go_ret2
          exact ⟨ao, cap, by rw [e2.out, q4.out]; rfl, T6, vL6, y1.out, by rw [q5.out]; exact y2.out, y3.out⟩
      · have hnf : ¬ n ≤ (st.out.length : Int) := hfull
        cases hAF : A ++ F with
        | nil =>
          have hend : Hid (recvAll m g n = st) := hide (by rw [htake.out, hAF]; rfl)
          obtain ⟨rfl, rfl⟩ := List.append_eq_nil_iff.1 hAF
          have hsve : Hid (servedAll m g n = sv) := hide (by rw [hsvd.out]; simp [servedTo])
          go_wp2_with fail
          refine (next_none ca cf _ _ _ _ wr T' hA hF).mono ?_
          rintro e w2 ⟨rfl, rfl⟩
          clear hs hA hF hGp hR hown hcand hnod hSv hB hS hN hG hGk hx hL hxr
          by_cases hsv0 : sv = []
          · subst hsv0
            obtain ⟨T'', q1, q2, q3⟩ := hnone.out hend.out hsve.out
            have q4 := hlenL hend.out
            replace q1 := hide q1
            replace q2 := hide q2
            replace q3 := hide q3
            go_wp2
            go_ret2
            exact ⟨ao, cap, by rw [e2.out, q4]; rfl, T'', vL, q1.out, q2.out, q3.out⟩
          · have hsvl : 0 < sv.length := List.length_pos_iff.2 hsv0
            have hadd2 := hadd.out hend.out hsve.out
            have q4 := hlenL hend.out
            have q5 := hne4 hsve.out hsv0
            replace q4 := hide q4
            replace q5 := hide q5
            clear hadd hnone hsv4
            go_wp2_with fail
            refine hadd2.mono ?_
            rintro e w6 ⟨rfl, T6, vL6, y1, y2, y3⟩
            replace y1 := hide y1
            replace y2 := hide y2
            replace y3 := hide y3
            go_wp2
            go_ret2
            exact ⟨ao, cap, by rw [e2.out, q4.out]; rfl, T6, vL6, y1.out, by rw [q5.out]; exact y2.out, y3.out⟩
        | cons v rest =>
          rw [hAF] at htake hnod hcand hsvd hsvn
          obtain ⟨x, hxv, hpas⟩ := hcand.out v (by simp)
          have hvl : v < m.bodies.length := by have := (List.getElem?_eq_some_iff.1 hxv).1; have := hfit2.out.len; omega
          obtain ⟨sb, hsb⟩ : ∃ sb, m.bodies[v]? = some sb := ⟨_, List.getElem?_eq_getElem hvl⟩
          have hp5 : ¬ (v : Int) < m.floor ∧ ¬ (v : Int) < g.start ∧ ¬ 0 < x.done ∧ ¬ m.time < x.till ∧ ¬ m.time < x.after := by
            simp [passed] at hpas
            omega
          go_wp2_with fail
          refine (next_some i ca cf _ v rest A F wr T' hA hF hAF).mono ?_
          rintro e w2 ⟨rfl, A', F', hAF', hA2, hF2, hs2⟩
          have hs02 : Step (SR i k) w0 T w2 T' := hs.trans (hs2.mono (fun u hu => hu.elim (fun h => .inr (.inl h)) (fun h => .inr (.inr (.inl h)))))
          have hG2 := hGp.step hs2 (by intro r hr; simp; omega)
          have hR2 := hR.step hs2 (by simp)
          have hown2 := ownsRow_step hown hs2 hR.2 (by simp)
          have hB2 := hB.step hs02 nSR0
          have hS2 := hS.step hs02 nSR1
          have hmeas : Hid (chLeft wr ca + chLeft wr cf = rest.length + 1) := hide (by
            rw [hA.left, hF.left]
            have := congrArg List.length hAF
            simpa using this)
          have htake2 : Hid (recvAll m g n = takeV m g.start n (A' ++ F') (visit m g.start st v)) := hide (by rw [htake.out, take_step (by omega), hAF'])
          have hnod2 : Hid ((A' ++ F').Nodup) := hide (by rw [hAF']; exact (List.nodup_cons.1 hnod.out).2)
          have hcand2 : Hid (∀ u ∈ A' ++ F', ∃ x, (visit m g.start st v).items[u]? = some x ∧ passed m g.start u x = false) := hide (by rw [hAF']; exact cand_rest hnod.out hcand.out)
          have hlAF : Hid (A'.length + F'.length = rest.length) := hide (by rw [← hAF']; simp)
          have hfit3 : Hid ((visit m g.start st v).Fit m.bodies.length) := hide (by
            have : visit m g.start st v = recvOne m g.start st v x := by simp [visit, hxv]
            rw [this]
            exact fit_recvOne hfit2.out hxv)
          have hdl : p.dead.length ≤ 4000 := by
            rw [hrel2.out.1.dead, List.length_map]
            have h1 := hfit2.out.cnt
            have h2 := cnt_le st.items
            have h3 := hfit2.out.len
            show st.dead.length ≤ 4000
            omega
          have hset := hrel2.out.1.set
          have htr : p.tr v = x.tries := by
            have hx2 : (gS g st).items[v]? = some x := hxv
            rw [hrel2.out.1.tr, itemAt_nat, hx2]
            have hd0 : ¬ 0 < x.done := by omega
            simp [triesOf, hd0]
          have hi64 : i64 (v : Int) := ⟨by omega, by omega⟩
          have hSv2 := hSv.step hs2 (by simp)
          have hsvd2 : Hid (servedAll m g n = (sv ++ [v]) ++ servedTo m g.start n (A' ++ F') (visit m g.start st v)) := hide (by
            rw [hsvd.out, served_step (by omega), hAF']
            simp)
          have hsvn2 : (sv ++ [v]).length + (A' ++ F').length ≤ 800 := by
            rw [hAF']
            simp at hsvn ⊢
            omega
          have hsv42 : ∀ u ∈ sv ++ [v], u < 400 := fun u hu => by
            rcases List.mem_append.1 hu with h | h
            · exact hsv4 u h
            · simp at h; omega
          have hsvl : sv.length ≤ 800 := by omega
          clear hs hA hF hGp hR hown hs2 hcand hnod htake hAF hAF' hadd hnone hlenL hne4 hxr hSv hsvd hsvn hsv4 hlr
          obtain ⟨i0, hi, hz0', hz1, hz2⟩ := info_parts infoIntJ
          have hal := step_alloc w2 T' (.cells #[.int .i64 v] 3) (fun _ => False)
          have hSva := hSv2.step hal (fun h => h)
          go_wp2_with (first
            | (at_builtin; refine wpList_append_row rfl _ _ 50 rfl 3 i0 (.int .i64 0) 1 8 Tryz.underlying50 hi hz0' hz1 hz2 rfl (by decide) _ _ _ rfl hSva ⟨w2.heap.size, 0, none⟩ 1 1 [.int .i64 v] rfl rfl (cell_one_new _ _ _) (by simp [Value.oneCell']) (by decide) (by unfold maxLen; omega) (by omega) ?_; intro sg sc3 w3 T3 hSv3 hs3; refine Hid.out ?_)
            | go_in)
          refine hide ?_
          have hw23 : Step (fun t => t = .q i 0 4) w2 T' w3 T3 := (hal.mono (fun _ h => h.elim)).trans hs3
          have g3 : Step (SR i k) w0 T w3 T3 := hs02.trans (hw23.mono (fun u hu => .inr (.inr (.inr (.inr hu)))))
          have hG3 := hG2.step hw23 (by intro r hr; simp; omega)
          have hR3 := hR2.step hw23 (by simp)
          have hown3 := ownsRow_step hown2 hw23 hR2.2 (by simp)
          have hB3 := hB2.step hw23 (by simp)
          have hS3 := hS2.step hw23 (by simp)
          have hA3 := hA2.step hw23 (by simp)
          have hF3 := hF2.step hw23 (by simp)
          have hSv3' : Row w3 T3 (.q i 0 4) 3 1 (.slice (some ⟨sg, 0, none⟩) (sv ++ [v]).length sc3) (sv ++ [v]).length ((sv ++ [v]).map natV) := by
            simpa [natV] using hSv3
          have hsve := serve_any i k b (f k) m p v sb vB _ _ _ w3 T3 hB3 hS3 hG3 hsm hfl.1 (by omega) hsb ht.1 ht.2 hcl.1 hcl.2 hdl hset
          clear hG2 hR2 hown2 hB2 hS2 hA2 hF2 hs02 hSv2 hSva hal hs3 hSv3 hw23 hB3 hS3 hG3
          by_cases hE : m.c.d ≤ x.tries
          · have ev : Hid (visit m g.start st v = ⟨st.items.set v { x with done := 2 }, st.dead ++ [v], wrap64 (st.ch + 1), st.out⟩) := hide (by simp [visit, hxv, recvOne, hpas, hE])
            have es1 : servedV m.c.d sb p v = .tuple #[.agg #[.int .i64 0, .int .i64 0, .string ⟨#[]⟩], .bool false] := by simp [servedV, htr, hE]
            have es2 : serveP m.c.d (m.time + m.c.l) sb p v = finishP (buryP p ⟨v, p.tr v, sb⟩) v := by simp [serveP, htr, hE]
            rw [es1, es2] at hsve
            go_wp2_with fail
            refine hsve.mono ?_
            rintro e w5 ⟨rfl, T5, hs5, hG5⟩
            have hrr := rel_bury (M' := m.setG k (visit m g.start st v)) (ch := wrap64 (st.ch + 1)) (out := st.out) hrel2.out.1 hrel2.out.2 hxv (by omega) (by omega) hsb rfl rfl rfl
            rw [← ev.out] at hrr
            have eo : (visit m g.start st v).out = st.out := by rw [ev.out]
            have ho2 : (visit m g.start st v).out.length ≤ 32 := by rw [eo]; exact hout
            replace hrr := hide hrr
            have hal6 := step_alloc w5 T5 (.cells #[.int .i64 0, .int .i64 0, .string ⟨#[]⟩] 82) (fun _ => False)
            have g5 : Step (SR i k) w0 T w5 T5 := g3.trans (hs5.mono (fun u hu => .inl hu))
            have hz5 := g5.size
            have hA5 := hA3.step hs5 (nSG (by decide))
            have hF5 := hF3.step hs5 (nSG (by decide))
            have hR5 := hR3.step hs5 nSG3
            have hSv5 := hSv3'.step hs5 (nSG (by decide))
            have hown5 := ownsRow_step hown3 hs5 hR3.2 nSG3
            rw [← eo] at hR5 hown5
            clear hsve hA3 hF3 hR3 hown3 hSv3' hs5
            go_wp2
            refine ⟨⟨visit m g.start st v, A', F', sv ++ [v], T5, ao, some ⟨sg, 0, none⟩, cap, sc3, _, by rw [eo], by simp, hSv5.step hal6 (fun h => h), hsvd2, hsvn2, hsv42, g5.trans (hal6.mono (fun _ h => h.elim)), hA5.step hal6 (fun h => h), hF5.step hal6 (fun h => h), hG5.step hal6 (fun _ _ h => h), hrr, hR5.step hal6 (fun h => h), ownsRow_step hown5 hal6 hR5.2 (fun h => h), htake2, hnod2, hcand2, hfit3, ho2⟩, ?_⟩
            rw [hmeas.out, (hA5.step hal6 (fun h => h)).left, (hF5.step hal6 (fun h => h)).left]
            have := hlAF.out
            omega
          · have hlt : x.tries < m.c.d := by omega
            have ev : Hid (visit m g.start st v = ⟨st.items.set v { x with tries := wrap64 (x.tries + 1), till := m.time + m.c.l }, st.dead, wrap64 (st.ch + 1), st.out ++ [⟨v, wrap64 (x.tries + 1), sb⟩]⟩) := hide (by
              simp [visit, hxv, recvOne, hpas, hE, List.getD, hsb])
            have es1 : servedV m.c.d sb p v = .tuple #[.agg #[.int .i64 v, .int .i64 (wrap64 (x.tries + 1)), .string sb], .bool true] := by simp [servedV, htr, hE]
            have es2 : serveP m.c.d (m.time + m.c.l) sb p v = leaseP (countP p v) v (m.time + m.c.l) := by simp [serveP, htr, hE]
            rw [es1, es2] at hsve
            go_wp2_with fail
            refine hsve.mono ?_
            rintro e w5 ⟨rfl, T5, hs5, hG5⟩
            have hrr := rel_give (M' := m.setG k (visit m g.start st v)) (u := m.time + m.c.l) (ch := wrap64 (st.ch + 1)) (out := st.out ++ [⟨v, wrap64 (x.tries + 1), sb⟩]) hrel2.out.1 hrel2.out.2 hxv (by omega) (by show m.time < _; omega) (by show _ ≤ m.time; omega) hlt hcd.2 rfl rfl rfl
            rw [← ev.out] at hrr
            have eo : Hid ((visit m g.start st v).out = st.out ++ [⟨v, wrap64 (x.tries + 1), sb⟩]) := hide (by rw [ev.out])
            replace hrr := hide hrr
            generalize hzt : wrap64 (x.tries + 1) = tt at *
            have g5 : Step (SR i k) w0 T w5 T5 := g3.trans (hs5.mono (fun u hu => (.inl hu : SR i k u)))
            have hA5 := hA3.step hs5 (nSG (by decide))
            have hF5 := hF3.step hs5 (nSG (by decide))
            have hR5 := hR3.step hs5 nSG3
            have hSv5 := hSv3'.step hs5 (nSG (by decide))
            have hown5 := ownsRow_step hown3 hs5 hR3.2 nSG3
            have hal6 := step_alloc w5 T5 (.cells #[.int .i64 v, .int .i64 tt, .string sb] 82) (fun _ => False)
            have hal7 := step_alloc (w5.alloc (.cells #[.int .i64 v, .int .i64 tt, .string sb] 82)) T5 (.cells #[.int .i64 v, .int .i64 tt, .string sb] 82) (fun _ => False)
            have hal := hal6.trans hal7
            have hRa := hR5.step hal (fun h => h)
            have howna := ownsRow_step hown5 hal hR5.2 (fun h => h)
            have hz0 := g5.size
            have hz6 : (w5.alloc (.cells #[.int .i64 v, .int .i64 tt, .string sb] 82)).heap.size = w5.heap.size + 1 := by simp
            have hcn := cells_new3 (w5.alloc (.cells #[.int .i64 v, .int .i64 tt, .string sb] 82)) (.int .i64 v) (.int .i64 tt) (.string sb) 82
            rw [hz6] at hcn
            obtain ⟨i0, hi, hz0', hz1, hz2⟩ := info_parts info71d
            clear hsve hA3 hF3 hR3 hown3 hSv3' hs5 g3
            go_wp2_with (first
              | (at_builtin; (refine wpList_append_own_at _ rfl _ _ 77 rfl w0.heap.size 82 i0 _ 3 32 Tryz.underlying77 hi hz0' hz1 hz2 rfl (by decide) _ _ _ rfl howna ⟨w5.heap.size + 1, 0, none⟩ 1 1 [.int .i64 v, .int .i64 tt, .string sb] rfl rfl hcn (by simp [Value.oneCell']) (by unfold maxLen; omega) (by omega) (by simp; omega) ?_); intro v' w6 hown6 hgrow6 hnil6 hloc6)
              | go_in)
            obtain ⟨T6, hs6, hR6⟩ := hRa.appended (ownsRow_base hown6 (Nat.zero_le _)) hgrow6 hloc6
            obtain ⟨ao6, cap6, rfl⟩ := ownsRow_slice hown6
            have el : (visit m g.start st v).out.length = st.out.length + 1 := by rw [eo.out]; simp
            have ed : dlVals (visit m g.start st v).out = dlVals st.out ++ [.int .i64 v, .int .i64 tt, .string sb] := by rw [eo.out, dlVals_append]; rfl
            rw [← el, ← ed] at hR6 hown6
            have g6 : Step (SR i k) w0 T w6 T6 := (g5.trans (hal.mono (fun _ h => h.elim))).trans (hs6.mono (fun u hu => .inr (.inr (.inr (.inl hu)))))
            have hA6 := (hA5.step hal (fun h => h)).step hs6 (by simp)
            have hF6 := (hF5.step hal (fun h => h)).step hs6 (by simp)
            have hG6 := (hG5.step hal (fun _ _ h => h)).step hs6 (by intro r hr; simp; omega)
            have hSv6 := (hSv5.step hal (fun h => h)).step hs6 (by simp)
            refine ⟨⟨visit m g.start st v, A', F', sv ++ [v], T6, ao6, some ⟨sg, 0, none⟩, cap6, sc3, _, by rw [el], by simp, hSv6, hsvd2, hsvn2, hsv42, g6, hA6, hF6, hG6, hrr, hR6, hown6, htake2, hnod2, hcand2, hfit3, by omega⟩, ?_⟩
            rw [hmeas.out, hA6.left, hF6.left]
            have := hlAF.out
            omega

end Go.Proofs.YtockkceclkcgbaaGreatDoor

/- The contract of a run's receive. -/
import Derived.Test.YtgcbooflhdjnhaaT36
import Derived.Test.YtgcbooflhdjnhaaT39
import Derived.Test.YtgcbooflhdjnhaaT40
namespace Go.Proofs.Ytgcbooflhdjnhaa
open Go.RowKit

abbrev Tag.rout : Tag := ⟨27, 0, 0, 0⟩
theorem setG_itemsOf {m : MQ} {k : Nat} {g : MG} {st : RS} (hg : m.groups[k]? = some g) (j : Nat) : itemsOf (m.setG k st) j = if j = k then st.items else itemsOf m j := by
  unfold itemsOf
  rw [setG_group]
  by_cases h : j = k
  · subst h
    simp [hg]
  · have h' : ¬ k = j := fun e => h e.symm
    cases m.groups[j]? <;> simp [h, h']

attribute [local go_sem] over_cell

set_option maxRecDepth 100000 in
set_option maxHeartbeats 8000000 in
theorem rrecv_any {X : World → (Nat → Tag) → Nat → Nat → MQ → Prop} {B Bm : Int} (hX : XC X Bm) (hle : B ≤ Bm) (i b bx gb gc : Nat) (m : MQ) (L : Nat → List Nat) (k : Nat) (g : MG) (n : Int) (w : World) (T : Nat → Tag) (hx : X w T i bx m) (hf : m.Fit B) (hr : RunG w T i b bx gb gc m (itemsOf m) L) (hq : NiceQ m L) (hg : m.groups[k]? = some g) (h1 : 1 ≤ n) (h2 : n ≤ 32) :
    Calls Try.prog 59 #[.pointer (some ⟨b, 0, none⟩), .int .i64 k, .int .i64 n] w fun e w' => e = .returned (.int .i64 (recvAll m g n).out.length) ∧
      ∃ T', Step (UT i) w T w' T' ∧ X w' T' i bx (m.setG k (recvAll m g n)) ∧ RunG w' T' i b bx gb gc (m.setG k (recvAll m g n)) (itemsOf (m.setG k (recvAll m g n))) (updF L k (L k ++ offs (recvAll m g n).out)) := by
  have hsm := hr.small
  have hfew := hr.few
  have hkl := (List.getElem?_eq_some_iff.1 hg).1
  have hat := at_name hq.named hfew hg
  have hnm := hq.named k g hg
  have hG := hq.grp k g hg
  have hlen := hf.ok.len g (List.mem_of_getElem? hg)
  have hgood := good_all hf.ok.good
  have hsim := sim_all (n := n) hgood.2.1 hG.items hlen
  have hout := out_all (m := m) (g := g) (n := n) (by omega)
  obtain ⟨eM, eL, eE⟩ := recvM_at hat hg h1 h2
  have hnew := nice_recv (n := n) hq hf hg
  have hfit : (m.setG k (recvAll m g n)).Fit B := by have := fit_recv hf (nameB k) n; rw [eM] at this; exact this
  have hsum : (L k).length + (recvAll m g n).out.length ≤ 4000 := by
    have a1 := hsim.sum
    have a2 := hsim.nice.sum hgood.2.1.2 (by rw [hsim.len]; exact hsm)
    have a3 := hG.sum
    omega
  obtain ⟨bo, bc, so, sc, lo, lc, A⟩ := hr.at hg
  have c0 := A.c0
  have c7 := A.c7
  have d0 := A.d0
  have lb := A.lb
  have lg := A.lg
  rw [hnm] at d0
  have gd1 := step_below (fun _ => False) T (Below.refl w.heap.size w).drew
  have hxd := hX.step hx gd1 (fun _ _ h => h)
  have hrd := hr.step gd1 (fun _ _ h => h)
  have Ad := A.step gd1 (fun _ _ h => h)
  have hcall := hX.recv i bx m (nameB k) n .rout _ _ hxd (hf.mono hle)
  rw [eM, eL, eE] at hcall
  have hsimk := hide hsim
  clear A hsim hlen eM eL eE
  generalize hst : recvAll m g n = st at *
  go_enter Try.func59, Try.ntmps59
  go_wp2_with fail
  go_region_held3 (fun w' => w'.cell? ⟨b, 0, none⟩ = some (.pointer (some ⟨bx, 0, none⟩)) ∧ w'.cell? ⟨gb, k * 4, none⟩ = some (.string (nameB k))) (go_keep) (first | (go_at_call 78; refine hcall.mono ?_; clear hcall; rintro e w2 ⟨ao, cap, rfl, T2, hs2, hx2, hA2⟩; have k0 := (Ad.step hs2 (fun _ a c => xt_rt a c)).c0; have j0 := (Ad.step hs2 (fun _ a c => xt_rt a c)).d0; rw [hnm] at j0))
  have hr2 := hrd.step hs2 (fun _ a c => xt_rt a c)
  have A2 := Ad.step hs2 (fun _ a c => xt_rt a c)
  have s2 : Step (UT i) w T w2 T2 := (gd1.mono (fun _ h => h.elim)).trans (hs2.mono (fun _ h => .inl h))
  clear k0 j0 Ad hrd hxd gd1 hr hx hs2 c0 c7 d0 lb lg
  have c9 := A2.c9
  have z9 := A2.fb 9
  have lb := A2.lb
  obtain ⟨hr3, s3⟩ := hr2.flag 9 (by simp)
  have hx3 := hX.step hx2 s3 xt_run
  have hA3 := hA2.step s3 (by simp)
  have s03 := s2.trans (s3.mono (fun _ h => rt_run i h))
  clear hr2 hx2 hA2 s2 s3 A2
  have hno : decide ((st.out.length : Int) ≤ n) = true := by simpa using hout
  go_wp2_with fail
  clear c9 z9 lb
  generalize w2.setCell ⟨b, 9, none⟩ (.bool true) = w3 at *
  go_loopw [10] (fun v wr => ∃ (j : Nat) (T' : Nat → Tag), j ≤ st.out.length ∧ v = .int .i64 j ∧ Step (UT i) w T wr T' ∧ X wr T' i bx (m.setG k st) ∧ RunG wr T' i b bx gb gc m (updF (itemsOf m) k (tookAll m g.items (st.out.take j))) (updF L k (L k ++ offs (st.out.take j))) ∧ Row wr T' .rout 89 3 (.slice ao st.out.length cap) st.out.length (dlVals st.out)) (fun v _ => st.out.length - (intOf v).toNat)
  case atStart =>
    refine ⟨0, T2, Nat.zero_le _, rfl, s03, hx3, hr3.congr rfl rfl rfl rfl rfl (fun j _ => ?_) (fun j _ => ?_), hA3⟩
    · by_cases e : j = k
      · subst e; rw [updF_same, itemsOf_at hg]; rfl
      · rw [updF_other _ _ _ e]
    · by_cases e : j = k
      · subst e; rw [updF_same]; simp [offs]
      · rw [updF_other _ _ _ e]
  case round =>
    obtain ⟨j, T4, hj, rfl, s4, hx4, hr4, hA4⟩ := hrel
    clear hr3 hx3 hA3 s03
    by_cases hlt : j < st.out.length
    · obtain ⟨d, hd⟩ : ∃ d, st.out[j]? = some d := ⟨_, List.getElem?_eq_getElem hlt⟩
      obtain ⟨a4, _, e⟩ := row_some hA4 (by omega)
      cases e
      obtain ⟨t0, t1, t2⟩ := dlVals_at st.out j d hd
      replace t0 := hA4.cell t0
      replace t1 := hA4.cell t1
      replace t2 := hA4.cell t2
      have hok := okAll_at hsimk.out.ok hd
      have htk := took_any i b bx gb gc m _ _ k g d wr T4 hr4 hg (by rw [updF_same]; exact hok) (by rw [updF_same]; simp [offs]; omega) hf.ok.good hf.ok.time
      rw [updF_same, updF_same, updF_twice, updF_twice, ← tookAll_succ hd] at htk
      have hoff : Hid (L k ++ offs (st.out.take j) ++ [d.off.toNat] = L k ++ offs (st.out.take (j + 1))) := hide (by rw [List.take_add_one, hd]; simp [offs])
      rw [hoff.out] at htk
      clear hr4 hok hoff hnew hsimk
      go_wp2_with fail
      refine htk.mono ?_
      clear htk
      rintro e w5 ⟨rfl, T5, s5, hr5⟩
      have hx5 := hX.step hx4 s5 xt_of_rt
      have hA5 := hA4.step s5 (by simp [RT])
      go_wp2
      exact ⟨⟨j + 1, T5, by omega, by simp, s4.trans (s5.mono (fun _ h => .inr h)), hx5, hr5, hA5⟩, by simp [intOf]; omega⟩
    · have ej : j = st.out.length := by omega
      have hr5 : RunG wr T4 i b bx gb gc (m.setG k st) (updF (itemsOf m) k (tookAll m g.items st.out)) (updF L k (L k ++ offs st.out)) := by
        rw [ej, List.take_length] at hr4
        exact hr4.congr rfl rfl rfl rfl setG_ns (fun _ _ => rfl) (fun _ _ => rfl)
      have hlk := look_any hX hle i b bx gb gc (m.setG k st) _ _ wr T4 hx4 hfit hr5 hnew.named (fun j' g' hj' => by
        refine ⟨(hnew.grp j' g' hj').items, ?_⟩
        rw [setG_group] at hj'
        obtain ⟨g0, h0, rfl⟩ := Option.map_eq_some_iff.1 hj'
        by_cases e : k = j'
        · subst e
          rw [hg] at h0
          cases h0
          rw [updF_same]
          simp only [if_true]
          exact hsimk.out.sim
        · rw [updF_other _ _ _ (fun x => e x.symm), if_neg e, itemsOf_at h0]
          exact SimI.refl _ _ _ _)
      clear hr4 hr5 hnew hsimk
      go_wp2_with fail
      refine hlk.mono ?_
      clear hlk
      rintro e w5 ⟨rfl, T5, s5, hx5, hr5⟩
      go_wp2
      go_ret
      exact ⟨rfl, T5, s4.trans s5, hx5, hr5⟩

end Go.Proofs.Ytgcbooflhdjnhaa

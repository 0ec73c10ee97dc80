/- Texts laid together: Pdm, Pel, OwnP, Pep, Ptl, Sct, Thn. -/
import Derived.Test.YtmhpgnndjagogaaGreatQz23
import Derived.Test.YtmhpgnndjagogaaGreatQz2
import Derived.Deep.AppendLies
import Derived.Test.YtmhpgnndjagogaaGreatQz17
import Derived.Test.YtmhpgnndjagogaaGreatQz19
import Derived.Test.YtmhpgnndjagogaaGreatQz7
import Derived.Test.YtmhpgnndjagogaaGreatQz18
import Derived.Test.YtmhpgnndjagogaaGreatQz3
import Derived.Test.YtmhpgnndjagogaaGreatQz9
import Derived.Test.YtmhpgnndjagogaaGreatQz5
import Derived.Test.YtmhpgnndjagogaaGreatQz12
set_option linter.unusedSimpArgs false
set_option linter.unusedVariables false
set_option linter.unusedSectionVars false
namespace Go.Proofs.YtmhpgnndjagogaaGreat
namespace V
set_option maxRecDepth 100000
open Go.RowKit
theorem nodes1 {n v : Nat} (h : v < n) : M.nodesB n [(v : Int)] = true := by
  unfold M.nodesB M.inN
  simp [h]
theorem diff1 (v : Int) : M.diffB [v] = true := by
  unfold M.diffB M.hasB
  simp
theorem perL_end (R : List (List Int)) (l : List Int) : M.perP R l l.length = M.perL R l := by unfold M.perP M.perL; rw [List.take_length]
set_option maxRecDepth 100000 in
set_option maxHeartbeats 4000000 in
theorem sPeriod (a : Option Addr) (n cap : Nat) (R : List (List Int)) (a' : Option Addr) (N cap' : Nat) (l : List Int) (w : World) (h : Mat w a n R) (hs : M.sqB R = true) (hc : M.hasCyc (M.ent R) R.length = true) (h' : Ints .i64 w a' N l) (hN : N ≤ 10) (hl : ∀ k, k < N → ∃ v : Nat, v < n ∧ l.getD k 0 = (v : Int)) :
    Calls Tryz.prog 93 #[.slice a n cap, .slice a' N cap'] w fun e w' => e = .returned (.int .i64 (M.perL R l)) ∧ 0 ≤ M.perL R l ∧ M.perL R l ≤ 10 ∧ Below w.heap.size w w' := by
  have HA := Lib.hid h
  have HI := Lib.hid h'
  have HLl : Hid (l.length = N) := h'.1
  have HRn := Lib.hid h.1
  have HL := Lib.hid hl
  obtain ⟨hr, n1, n2, -⟩ := sq_parts h hs
  have HSm := Lib.hid (M.crM_sm hs h.1)
  have HRc : Hid (Rect (M.crM R) n n) := by show Rect _ _ _; rw [← h.1]; exact rect_mk _ _ _
  have HS := Lib.hid hs
  have HC := Lib.hid hc
  obtain ⟨F, hF⟩ : ∃ F, F = M.perP R l := ⟨_, rfl⟩
  have HF0 : Hid (F 0 = 0) := by show _ = _; rw [hF]; rfl
  have HFn : Hid (∀ k, k < N → F (k + 1) = M.lenG (M.ent (M.crM R)) n n [l.getD k 0] (F k)) := fun k hk => by
    rw [hF, M.perP_next (by rw [h'.1]; exact hk), h.1]
  have HFe : Hid (M.perL R l = F N) := by show _ = _; rw [hF, ← h'.1]; exact (perL_end R l).symm
  clear h h' hl hs hc hr hF
  go_enter Tryz.func93, Tryz.ntmps93
  go_wp2_with fail
  refine (sMatrix _ _ _ R _ HA.out HS.out HC.out).mono ?_
  rintro e w1 ⟨b1, c1, rfl, ho, hb⟩
  have HQ : Hid (Sq w1 b1 n (M.crM R)) := ⟨ho.mat, HRc.out, fun i j hi hj => M.sm_wide (HSm.out i j hi hj), n1, n2⟩
  have HB1 := Lib.hid hb
  have hz1 : w.heap.size ≤ w1.heap.size := hb.size
  clear ho hb
  go_wp2
  go_loopw [6, 7] (fun gv kv wr => ∃ (k : Nat) (q : Int), k ≤ N ∧ kv = .int .i64 k ∧ gv = .int .i64 q ∧ Hid (F k = q) ∧ 0 ≤ q ∧ q ≤ 10 ∧ Below w1.heap.size w1 wr) (fun _ kv _ => N - (intOf kv).toNat)
  case atStart => exact ⟨0, 0, Nat.zero_le _, rfl, rfl, HF0, by omega, by omega, Below.refl _ _⟩
  case round =>
    obtain ⟨k, q, hk, rfl, rfl, HK, q1, q2, hb⟩ := hrel
    have HB := Lib.hid hb
    have hzr : w1.heap.size ≤ wr.heap.size := hb.size
    clear hb
    by_cases hkl : k < N
    · have hki : (k : Int) < (N : Int) := by omega
      obtain ⟨v, hv, hlv⟩ := HL.out k hkl
      obtain ⟨ib, io, x, rfl, -, hx, cx⟩ := ((HI.out.below HB1.out).below HB.out).at k hkl
      rw [hlv] at hx
      subst hx
      have HFk := Lib.hid (HFn.out k hkl)
      have hfk := HFk.out
      rw [hlv, HK.out] at hfk
      have HFk2 := Lib.hid hfk
      clear hfk HFk hlv
      go_wp2_with fail
      refine (sLengths _ n _ (M.crM R) n _ 1 1 [(v : Int)] q wr.heap.size _ (HQ.out.below (HB.out.alloc hzr _)) (own_lit1b wr _ _ (Nat.le_refl _)) (nodes1 hv) (diff1 _) (by omega) (by omega) q1 q2 (by simp)).mono ?_
      rintro e w2 ⟨rfl, t1, t2, hb⟩
      have HB2 : Hid (Below w1.heap.size w1 w2) := HB.out.trans (((b_alloc wr _).trans (hb.mono (by simp))).mono hzr)
      rw [← HFk2.out] at t1 t2 ⊢
      clear hb
      obtain ⟨t, ht⟩ : ∃ t, t = F (k + 1) := ⟨_, rfl⟩
      rw [← ht] at t1 t2 ⊢
      have HT : Hid (F (k + 1) = t) := ht.symm
      clear ht HFk2
      go_wp2
      go_roundw
      case rel => exact ⟨k + 1, t, by omega, by go_num, rfl, HT, t1, t2, HB2.out⟩
      case measure => simp [intOf]; omega
    · obtain rfl : k = N := by omega
      have HE := Lib.hid (HFe.out.trans HK.out)
      go_wp2
      go_ret
      rw [HE.out]
      exact ⟨rfl, q1, q2, HB1.out.trans (HB.out.mono hz1)⟩
theorem comp_nodes {R : List (List Int)} {v : Nat} : ∀ k, k < (M.compL (M.ent (M.crM R)) R.length v).length → ∃ u : Nat, u < R.length ∧ (M.compL (M.ent (M.crM R)) R.length v).getD k 0 = (u : Int) := fun k hk => by
  obtain ⟨w, hw, -, e⟩ := M.compL_at hk
  exact ⟨w, hw, e⟩
set_option maxRecDepth 100000 in
set_option maxHeartbeats 4000000 in
theorem sPeriodAt (a : Option Addr) (n cap : Nat) (R : List (List Int)) (x : Int) (w : World) (h : Mat w a n R) :
    Calls Tryz.prog 36 #[.slice a n cap, .int .i64 x] w fun e w' => e = .returned (.tuple #[.int .i64 (M.perRes R x).1, .int .i64 (M.perRes R x).2]) ∧ Below w.heap.size w w' := by
  have HA := Lib.hid h
  have hRn : R.length = n := h.1
  by_cases hk : M.crCode R = 0
  · obtain ⟨hs, hc⟩ := M.cr_code hk
    obtain ⟨-, n1, n2, -⟩ := sq_parts h hs
    have HS := Lib.hid hs
    have HC := Lib.hid hc
    have HK := Lib.hid hk
    have HRn := Lib.hid hRn
    obtain ⟨bi, hbi⟩ : ∃ bi, bi = M.inN n x := ⟨_, rfl⟩
    cases bi with
    | false =>
      have HE : Hid (M.perRes R x = (0, 2)) := by show _ = _; unfold M.perRes; rw [if_pos hk, hRn, ← hbi]; rfl
      have HI := Lib.hid hbi.symm
      clear h hk hs hc hRn hbi
      go_enter Tryz.func36, Tryz.ntmps36
      go_wp2_with fail
      refine (sCode _ _ _ R _ HA.out).mono ?_
      rintro e w1 ⟨rfl, hb⟩
      rw [HK.out]
      have HB1 := Lib.hid hb
      clear hb
      go_wp2_with (go_at_call 90; refine (sNode_b _ _ _ _ _ false HI.out (by omega)).mono ?_; rintro e w' ⟨rfl, rfl⟩)
      go_ret2
      rw [HE.out]
      exact ⟨rfl, HB1.out⟩
    | true =>
      obtain ⟨v, hv, rfl⟩ := M.inN_j hbi.symm
      have HE0 : Hid (M.perRes R (v : Int) = if M.crN R v then (M.perL R (M.compL (M.ent (M.crM R)) R.length v), 0) else (0, 5)) := by show _ = _; unfold M.perRes; rw [if_pos hk, hRn, ← hbi]; simp
      have HI := Lib.hid hbi.symm
      have HCm : Hid ((M.crComps R).length ≤ n) := by show _; rw [← hRn]; exact M.crComps_len R
      have HH := Lib.hid (fun k (hk : k < (M.crComps R).length) (hb : M.hasB ((M.crComps R).getD k []) (v : Int) = true) => M.comp_has hk (by rw [hRn]; exact hv) hb)
      have HNo := Lib.hid (M.comp_no (R := R) (v := v) (by rw [hRn]; exact hv))
      have HLe : Hid (∀ u, (M.compL (M.ent (M.crM R)) R.length u).length ≤ n) := fun u => by rw [← hRn]; exact M.compP_len _ _ _ _
      have HNd : Hid (∀ u k, k < (M.compL (M.ent (M.crM R)) R.length u).length → ∃ z : Nat, z < n ∧ (M.compL (M.ent (M.crM R)) R.length u).getD k 0 = (z : Int)) := fun u k hk => by rw [← hRn]; exact comp_nodes k hk
      clear h hk hs hc hRn hbi
      go_enter Tryz.func36, Tryz.ntmps36
      go_wp2_with fail
      refine (sCode _ _ _ R _ HA.out).mono ?_
      rintro e w1 ⟨rfl, hb⟩
      rw [HK.out]
      have HB1 := Lib.hid hb
      clear hb
      go_wp2_with (go_at_call 90; refine (sNode_b _ _ _ _ _ true HI.out (by omega)).mono ?_; rintro e w' ⟨rfl, rfl⟩)
      refine (sComponents6 _ _ _ R _ (HA.out.below HB1.out) HS.out HC.out).mono ?_
      rintro e w2 ⟨b2, m2, c2, rfl, ho, hb⟩
      have hm2 := ho.len
      have hcm := HCm.out
      rw [← hm2] at hcm
      have HM2 := Lib.hid hm2
      have HL2 := Lib.hid ho.mat
      have HB2 := Lib.hid (HB1.out.trans (hb.mono HB1.out.size))
      clear ho hb hm2
      generalize hLC : M.crComps R = LC at *
      clear hLC
      go_wp2
      go_loopw [8] (fun kv wr => ∃ k : Nat, k ≤ m2 ∧ kv = .int .i64 k ∧ Hid (∀ i, i < k → M.hasB (LC.getD i []) (v : Int) = false) ∧ wr = w2) (fun kv _ => m2 - (intOf kv).toNat)
      case atStart => exact ⟨0, Nat.zero_le _, rfl, fun i hi => absurd hi (Nat.not_lt_zero i), rfl⟩
      case round =>
        obtain ⟨k, hk, rfl, HF, rfl⟩ := hrel
        by_cases hkl : k < m2
        · have hki : (k : Int) < (m2 : Int) := by omega
          obtain ⟨ab, ao, ra, rc, L, lr, rfl, -, hlr, ck, hIr⟩ := HL2.out.at k hkl
          obtain ⟨t, ht⟩ : ∃ t, t = M.hasB (LC.getD k []) (v : Int) := ⟨_, rfl⟩
          have HT := Lib.hid ht
          rw [← hlr] at ht
          have HT2 := Lib.hid ht
          have HIr := Lib.hid hIr
          have HLr := Lib.hid hlr
          clear hIr hlr ht
          cases t with
          | false =>
            have HF2 : Hid (∀ i, i < k + 1 → M.hasB (LC.getD i []) (v : Int) = false) := fun i hi => by
              by_cases q : i = k
              · subst q; exact HT.out.symm
              · exact HF.out i (by omega)
            go_wp2_with (go_at_call 92; refine (sHas _ _ _ lr _ _ HIr.out).mono ?_; rintro e w' ⟨rfl, rfl⟩; rw [← HT2.out])
            go_roundw
            case rel => exact ⟨k + 1, by omega, by go_num, HF2, by first | rfl | trivial⟩
            case measure => simp [intOf]; omega
          | true =>
            obtain ⟨e1, e2⟩ := HH.out k (by have := HM2.out; omega) HT.out.symm
            have hlr2 := HLr.out.trans e1
            have HI2 := HIr.out
            rw [hlr2] at HI2
            have hLn : (M.compL (M.ent (M.crM R)) R.length v).length = L := HI2.1
            have HI3 := Lib.hid HI2
            have HE : Hid (M.perRes R (v : Int) = (M.perL R (M.compL (M.ent (M.crM R)) R.length v), 0)) := by show _ = _; rw [HE0.out, e2]; rfl
            have HLn := Lib.hid hLn
            have hL10 : L ≤ 10 := by have := HLe.out v; omega
            have HNd2 := Lib.hid (HNd.out v)
            clear e1 e2 hlr2 HI2 hLn
            generalize M.compL (M.ent (M.crM R)) R.length v = cl at *
            go_wp2_with (first | (go_at_call 92; refine (sHas _ _ _ lr _ _ HIr.out).mono ?_; rintro e w' ⟨rfl, rfl⟩; rw [← HT2.out]))
            refine (sPeriod _ _ _ R _ L _ cl _ (HA.out.below HB2.out) HS.out HC.out HI3.out hL10 (fun k hk => HNd2.out k (by rw [HLn.out]; exact hk))).mono ?_
            rintro e w3 ⟨rfl, -, -, hb⟩
            have HB3 := Lib.hid (HB2.out.trans (hb.mono HB2.out.size))
            clear hb
            go_wp2
            go_ret2
            rw [HE.out]
            exact ⟨rfl, HB3.out⟩
        · obtain rfl : k = m2 := by omega
          have HE : Hid (M.perRes R (v : Int) = (0, 5)) := by
            show _ = _
            rw [HE0.out, HNo.out (fun i hi => HF.out i (by have := HM2.out; omega))]; rfl
          go_wp2
          go_ret2
          rw [HE.out]
          exact ⟨rfl, HB2.out⟩
  · obtain ⟨k, hkk⟩ : ∃ k, k = M.crCode R := ⟨_, rfl⟩
    have HE : Hid (M.perRes R x = (0, k)) := by show _ = _; unfold M.perRes; rw [if_neg hk, hkk]
    have HK := Lib.hid hkk
    have hk0 : (k != 0) = true := by rw [hkk]; simpa using hk
    clear h hk hkk hRn
    go_enter Tryz.func36, Tryz.ntmps36
    go_wp2_with fail
    refine (sCode _ _ _ R _ HA.out).mono ?_
    rintro e w1 ⟨rfl, hb⟩
    rw [← HK.out]
    have HB := Lib.hid hb
    clear hb
    go_wp2
    go_ret2
    rw [HE.out]
    exact ⟨rfl, HB.out⟩
set_option maxRecDepth 100000 in
set_option maxHeartbeats 4000000 in
theorem sCyclicity6 (a : Option Addr) (n cap : Nat) (R : List (List Int)) (w : World) (h : Mat w a n R) (hs : M.sqB R = true) (hc : M.hasCyc (M.ent R) R.length = true) :
    Calls Tryz.prog 96 #[.slice a n cap] w fun e w' => e = .returned (.int .i64 (M.cycP R (M.crComps R).length)) ∧ Below w.heap.size w w' := by
  have HA := Lib.hid h
  have hRn : R.length = n := h.1
  obtain ⟨-, n1, n2, -⟩ := sq_parts h hs
  have HS := Lib.hid hs
  have HC := Lib.hid hc
  have HCm : Hid ((M.crComps R).length ≤ n) := by show _; rw [← hRn]; exact M.crComps_len R
  have HCb := Lib.hid (fun k (hk : k ≤ (M.crComps R).length) => M.cycP_big hs hc hk (by have := M.crComps_len R; omega))
  have HAt : Hid (∀ k, k < (M.crComps R).length → ((M.crComps R).getD k []).length ≤ n ∧ (∀ i, i < ((M.crComps R).getD k []).length → ∃ z : Nat, z < n ∧ ((M.crComps R).getD k []).getD i 0 = (z : Int)) ∧ 1 ≤ M.perL R ((M.crComps R).getD k []) ∧ M.cycP R (k + 1) = (M.cycP R k).tdiv (M.gI (M.cycP R k) (M.perL R ((M.crComps R).getD k []))) * M.perL R ((M.crComps R).getD k []) ∧ 1 ≤ M.gI (M.cycP R k) (M.perL R ((M.crComps R).getD k []))) := fun k hk => by
    obtain ⟨v, hv, -, e, -⟩ := M.comp_at hk
    have hp := (M.comp_per hs hc hk).1
    have hb := (M.cycP_big hs hc (k := k) (by omega) (by have := M.crComps_len R; omega)).1
    refine ⟨by rw [e, ← hRn]; exact M.compP_len _ _ _ _, fun i hi => ?_, hp, M.cycP_next hk, M.gI_pos hb⟩
    rw [e] at hi ⊢
    rw [← hRn]
    exact comp_nodes i hi
  obtain ⟨F, hF⟩ : ∃ F, F = M.cycP R := ⟨_, rfl⟩
  rw [← hF] at HCb HAt ⊢
  have HF0 : Hid (F 0 = 1) := by show _ = _; rw [hF]; rfl
  clear hF
  clear h hs hc hRn
  go_enter Tryz.func96, Tryz.ntmps96
  go_wp2_with fail
  refine (sComponents6 _ _ _ R _ HA.out HS.out HC.out).mono ?_
  rintro e w2 ⟨b2, m2, c2, rfl, ho, hb⟩
  have hm2 := ho.len
  have hcm := HCm.out
  rw [← hm2] at hcm
  have HM2 := Lib.hid hm2
  have HL2 := Lib.hid ho.mat
  have HB2 := Lib.hid hb
  have hz2 := hb.size
  clear ho hb hm2
  generalize hLC : M.crComps R = LC at *
  have HLC := Lib.hid hLC
  clear hLC
  go_wp2
  go_loopw [4, 5, 6] (fun ov kv _ wr => ∃ (k : Nat) (q : Int), k ≤ m2 ∧ kv = .int .i64 k ∧ ov = .int .i64 q ∧ Hid (F k = q) ∧ Below w2.heap.size w2 wr) (fun _ kv _ _ => m2 - (intOf kv).toNat)
  case atStart => exact ⟨0, 1, Nat.zero_le _, rfl, rfl, HF0, Below.refl _ _⟩
  case round =>
    obtain ⟨k, q, hk, rfl, rfl, HK, hb⟩ := hrel
    have HB := Lib.hid hb
    have hzr : w2.heap.size ≤ wr.heap.size := hb.size
    clear hb
    obtain ⟨q1, q2⟩ := HCb.out k (by have := HM2.out; omega)
    rw [HK.out] at q1 q2
    by_cases hkl : k < m2
    · have hki : (k : Int) < (m2 : Int) := by omega
      obtain ⟨l1, l2, p1, l3, g1⟩ := HAt.out k (by have := HM2.out; omega)
      obtain ⟨ab, ao, ra, rc, L, lr, rfl, -, hlr, ck, hIr⟩ := (HL2.out.below HB.out).at k hkl
      have HIr := Lib.hid hIr
      rw [← hlr] at l1 l2 l3 p1 g1
      rw [hIr.1] at l1 l2
      have HNd := Lib.hid l2
      obtain ⟨p, hp⟩ : ∃ p, p = M.perL R lr := ⟨_, rfl⟩
      rw [← hp, HK.out] at l3 g1
      rw [← hp] at p1
      have HP := Lib.hid hp
      clear hlr hIr l2 hp
      obtain ⟨c1, c2⟩ := HCb.out (k + 1) (by have := HM2.out; omega)
      rw [l3] at c1 c2
      have HN := Lib.hid l3
      have hL10 : L ≤ 10 := by omega
      obtain ⟨-, -, -, -, -, d1, d2⟩ := M.lcm_two q1 p1
      clear l3
      go_wp2_with fail
      refine (sPeriod _ _ _ R _ L _ lr _ ((HA.out.below HB2.out).below HB.out) HS.out HC.out HIr.out hL10 HNd.out).mono ?_
      rintro e w3 ⟨rfl, -, pb, hb⟩
      rw [← HP.out] at pb ⊢
      have HB3 := Lib.hid (HB.out.trans (hb.mono hzr))
      clear hb
      have hgc : M.gI q p = ((Int.gcd q p : Nat) : Int) := rfl
      rw [hgc] at g1 c1 c2 d1 d2 HN
      have HG := Lib.hid g1
      have hgne : (((Int.gcd q p : Nat) : Int) == 0) = false := by simp; omega
      clear hgc
      go_wp2_with (go_at_call 132; refine (sDivisor q p _ (by omega) (by omega) (by omega) (by omega)).mono ?_; rintro e w' ⟨rfl, qn, rfl⟩)
      have HB4 := Lib.hid (below_drewN HB3.out qn)
      go_roundw
      case rel => exact ⟨k + 1, _, by omega, by go_num, rfl, HN, HB4.out⟩
      case measure => simp [intOf]; omega
    · obtain rfl : k = m2 := by omega
      have HE : Hid (F LC.length = q) := by show _ = _; rw [← HM2.out]; exact HK.out
      go_wp2
      go_ret
      rw [HLC.out, HE.out]
      exact ⟨rfl, HB2.out.trans (HB.out.mono hz2)⟩
set_option maxRecDepth 100000 in
set_option maxHeartbeats 1000000 in
theorem sCyclicity (a : Option Addr) (n cap : Nat) (R : List (List Int)) (w : World) (h : Mat w a n R) :
    Calls Tryz.prog 38 #[.slice a n cap] w fun e w' => e = .returned (.tuple #[.int .i64 (M.cycloRes R).1, .int .i64 (M.cycloRes R).2]) ∧ Below w.heap.size w w' := by
  have HA := Lib.hid h
  by_cases hk : M.crCode R = 0
  · obtain ⟨hs, hc⟩ := M.cr_code hk
    have HS := Lib.hid hs
    have HC := Lib.hid hc
    have HK := Lib.hid hk
    have HE : Hid (M.cycloRes R = (M.cycP R (M.crComps R).length, 0)) := by show _ = _; unfold M.cycloRes; rw [if_pos hk]
    clear h hk hs hc
    go_enter Tryz.func38, Tryz.ntmps38
    go_wp2_with fail
    refine (sCode _ _ _ R _ HA.out).mono ?_
    rintro e w1 ⟨rfl, hb⟩
    rw [HK.out]
    have HB1 := Lib.hid hb
    clear hb
    go_wp2_with fail
    refine (sCyclicity6 _ _ _ R _ (HA.out.below HB1.out) HS.out HC.out).mono ?_
    rintro e w2 ⟨rfl, hb⟩
    have HB2 := Lib.hid (HB1.out.trans (hb.mono HB1.out.size))
    clear hb
    go_wp2
    go_ret2
    rw [HE.out]
    exact ⟨rfl, HB2.out⟩
  · obtain ⟨k, hkk⟩ : ∃ k, k = M.crCode R := ⟨_, rfl⟩
    have HE : Hid (M.cycloRes R = (0, k)) := by show _ = _; unfold M.cycloRes; rw [if_neg hk, hkk]
    have HK := Lib.hid hkk
    have hk0 : (k != 0) = true := by rw [hkk]; simpa using hk
    clear h hk hkk
    go_enter Tryz.func38, Tryz.ntmps38
    go_wp2_with fail
    refine (sCode _ _ _ R _ HA.out).mono ?_
    rintro e w1 ⟨rfl, hb⟩
    rw [← HK.out]
    have HB := Lib.hid hb
    clear hb
    go_wp2
    go_ret2
    rw [HE.out]
    exact ⟨rfl, HB.out⟩
end V
end Go.Proofs.YtmhpgnndjagogaaGreat

namespace Go.Proofs.YtmhpgnndjagogaaGreat
namespace M
section
variable {R : List (List Int)} (h1 : sqB R = true) (h2 : hasCyc (ent R) R.length = true)
include h1 h2
theorem cyc_dvd {k : Nat} : ∀ m, k < m → m ≤ (crComps R).length → perL R ((crComps R).getD k []) ∣ cycP R m := by
  intro m
  induction m with
  | zero => intro h _; omega
  | succ m ih =>
    intro h hm
    have b := (cycP_bd h1 h2 m (by omega)).1
    have p := (comp_per h1 h2 (k := m) (by omega)).1
    rw [cycP_next (by omega)]
    by_cases e : k = m
    · subst e; exact Int.dvd_mul_left _ _
    · rw [← (lcm_two b p).1]
      exact Int.dvd_trans (ih (by omega) (by omega)) (Int.dvd_mul_right _ _)
theorem node_comp {v : Nat} (hv : v < R.length) (hc : crN R v = true) : perL R (compL (ent (crM R)) R.length v) ∣ cycP R (crComps R).length := by
  have : ∃ k, k < (crComps R).length ∧ hasB ((crComps R).getD k []) (v : Int) = true := by
    refine Classical.byContradiction fun hno => ?_
    have := comp_no hv fun k hk => by
      cases e : hasB ((crComps R).getD k []) (v : Int) with
      | false => rfl
      | true => exact absurd ⟨k, hk, e⟩ hno
    rw [this] at hc; cases hc
  obtain ⟨k, hk, hb⟩ := this
  rw [← (comp_has hk hv hb).1]
  exact cyc_dvd h1 h2 _ hk (Nat.le_refl _)
theorem best_per : crN R (vx (bestCyc R) 0) = true ∧ vx (bestCyc R) 0 < R.length ∧ (bestCyc R).getD 0 0 = (vx (bestCyc R) 0 : Int) ∧ perL R (compL (ent (crM R)) R.length (vx (bestCyc R) 0)) ∣ ((bestCyc R).length : Int) := by
  obtain ⟨n1, n2, -⟩ := sq_sm h1
  obtain ⟨q1, q2, q3, q4⟩ := best_cyc h1 h2
  have hcr := crit_cyc h1 h2 q1
  rw [decide_eq_true q2] at hcr
  obtain ⟨-, hnod, -, -⟩ := crCycB_t q1
  have hall : ∀ u, u < (bestCyc R).length → crB R (vx (bestCyc R) u) (vx (bestCyc R) ((u + 1) % (bestCyc R).length)) = true := fun u hu => List.all_eq_true.1 hcr.symm u (List.mem_range.2 hu)
  have hlt : ∀ u, u % (bestCyc R).length < (bestCyc R).length := fun u => Nat.mod_lt _ (by omega)
  have hn : ∀ u, vx (bestCyc R) (u % (bestCyc R).length) < R.length := fun u => vx_lt hnod (hlt u)
  have h0 := nodesB_at hnod (k := 0) (by omega)
  refine ⟨List.any_eq_true.2 ⟨_, List.mem_range.2 (hn 1), by have := hall 0 (by omega); rwa [Nat.zero_add] at this⟩, by have := hn 0; rwa [Nat.zero_mod] at this, by unfold vx; omega, ?_⟩
  refine closed_v h1 h2 ((perL_iff n1).1 (Int.dvd_refl _)) (f := fun u => vx (bestCyc R) (u % (bestCyc R).length)) (by show vx _ (0 % _) = _; rw [Nat.zero_mod]) (by show vx _ (_ % _) = _; rw [Nat.mod_self]) (fun i hi => ?_) (fun i _ => hn i)
  refine (crM_iff h1 h2 (hn _) (hn _)).2 ?_
  have := hall _ (hlt i)
  rw [Nat.mod_add_mod] at this
  exact this
end
theorem per_best {R : List (List Int)} (h : crCode R = 0) : ∃ q, perRes R ((bestCyc R).getD 0 0) = (q, 0) ∧ 1 ≤ q ∧ q ≤ 10 ∧ ((bestCyc R).length : Int).tmod q = 0 ∧ (cycP R (crComps R).length).tmod q = 0 := by
  obtain ⟨h1, h2⟩ := cr_code h
  obtain ⟨n1, n2, -⟩ := sq_sm h1
  obtain ⟨a, b, c, d⟩ := best_per h1 h2
  have hp := per_pos h1 h2 b a
  refine ⟨_, ?_, hp.1, by omega, Int.tmod_eq_zero_of_dvd d, Int.tmod_eq_zero_of_dvd (node_comp h1 h2 b a)⟩
  unfold perRes
  rw [if_pos h, c]
  have : inN R.length ((vx (bestCyc R) 0 : Nat) : Int) = true := by unfold inN; simp [b]
  rw [if_pos this, Int.toNat_natCast, if_pos a]
theorem per_any {R : List (List Int)} {x : Int} (h : crCode R = 0) (hp : (perRes R x).2 = 0) : 0 < (perRes R x).1 ∧ (perRes R x).1 ≤ 10 ∧ (cycP R (crComps R).length).tmod (perRes R x).1 = 0 := by
  obtain ⟨h1, h2⟩ := cr_code h
  obtain ⟨n1, n2, -⟩ := sq_sm h1
  unfold perRes at hp ⊢
  rw [if_pos h] at hp ⊢
  by_cases e : inN R.length x = true
  · rw [if_pos e] at hp ⊢
    have hx := inN_t e
    by_cases e2 : crN R x.toNat = true
    · rw [if_pos e2]
      have hv : x.toNat < R.length := by omega
      have hp := per_pos h1 h2 hv e2
      exact ⟨by show 0 < perL _ _; omega, by show perL _ _ ≤ 10; omega, Int.tmod_eq_zero_of_dvd (node_comp h1 h2 hv e2)⟩
    · rw [if_neg e2] at hp; exact absurd hp (by simp)
  · rw [if_neg e] at hp; exact absurd hp (by simp)
end M
end Go.Proofs.YtmhpgnndjagogaaGreat

namespace Go.Proofs.YtmhpgnndjagogaaGreat.V
open Go.RowKit
/-- An owned matrix all of whose blocks have the property P. -/
def OwnP (w : World) (B : Nat) (P : Nat → Prop) (v : Value) (R : List (List Int)) : Prop :=
  ∃ V, OwnV w B v R V ∧ (∀ k, v.ownBlock = some k → P k) ∧ ∀ i, i < R.length → ∀ k, (V.getD i (.slice none 0 0)).ownBlock = some k → P k
theorem OwnP.toM {w : World} {B : Nat} {P : Nat → Prop} {v : Value} {R : List (List Int)} (h : OwnP w B P v R) : OwnM w B v R := by
  obtain ⟨V, h, -⟩ := h
  exact ⟨V, h⟩
theorem OwnM.toP {w : World} {B : Nat} {P : Nat → Prop} {v : Value} {R : List (List Int)} (h : OwnM w B v R) (hP : ∀ k, B ≤ k → k < w.heap.size → P k) : OwnP w B P v R := by
  obtain ⟨V, h⟩ := h
  refine ⟨V, h, fun k hk => ?_, fun i hi k hk => ?_⟩
  · have := own_lt h.2.1 hk; exact hP k this.1 this.2
  · have := own_lt (h.2.2.1 i hi) hk; exact hP k this.1 this.2
theorem OwnP.imp {w : World} {B : Nat} {P Q : Nat → Prop} {v : Value} {R : List (List Int)} (h : OwnP w B P v R) (hP : ∀ k, P k → Q k) : OwnP w B Q v R := by
  obtain ⟨V, h, h1, h2⟩ := h
  exact ⟨V, h, fun k hk => hP k (h1 k hk), fun i hi k hk => hP k (h2 i hi k hk)⟩
theorem OwnP.mono {w : World} {B B' : Nat} {P : Nat → Prop} {v : Value} {R : List (List Int)} (h : OwnP w B P v R) (hb : B' ≤ B) : OwnP w B' P v R := by
  obtain ⟨V, ⟨h1, h2, h3, h4, h5⟩, k1, k2⟩ := h
  exact ⟨V, ⟨h1, World.ownsRow.mono h2 hb, fun i hi => (h3 i hi).mono hb, h4, h5⟩, k1, k2⟩
theorem OwnP.keep {w w' : World} {B : Nat} {P : Nat → Prop} {v : Value} {R : List (List Int)} (h : OwnP w B P v R) (hk : ∀ k, P k → B ≤ k → k < w.heap.size → w'.heap[k]? = w.heap[k]?) : OwnP w' B P v R := by
  obtain ⟨V, ⟨h1, h2, h3, h4, h5⟩, k1, k2⟩ := h
  exact ⟨V, ⟨h1, ownsRow_keep h2 (fun k hv => hk k (k1 k hv) (own_lt h2 hv).1 (own_lt h2 hv).2), fun i hi => ownsRow_keep (h3 i hi) (fun k hv => hk k (k2 i hi k hv) (own_lt (h3 i hi) hv).1 (own_lt (h3 i hi) hv).2), h4, h5⟩, k1, k2⟩
theorem OwnP.below {w w' : World} {B : Nat} {P : Nat → Prop} {v : Value} {R : List (List Int)} (h : OwnP w B P v R) (hb : Below w.heap.size w w') : OwnP w' B P v R :=
  h.keep (fun k _ _ h2 => hb.block k h2)
theorem OwnV.at {w : World} {B n cap : Nat} {a : Option Addr} {R : List (List Int)} {V : List Value} (h : OwnV w B (.slice a n cap) R V) (i j : Nat) (hi : i < n) (hj : j < (R.getD i []).length) :
    ∃ g q L c x, a = some ⟨g, 0, none⟩ ∧ B ≤ g ∧ B ≤ q ∧ L = (R.getD i []).length ∧ x = (R.getD i []).getD j 0 ∧ w.cell? ⟨g, i, none⟩ = some (.slice (some ⟨q, 0, none⟩) L c) ∧ w.cell? ⟨q, j, none⟩ = some (.int .i64 x) ∧ w.frozen? ⟨q, j, none⟩ = false ∧
      (V.getD i (.slice none 0 0)).ownBlock = some q ∧ ∀ y, OwnV (w.setCell ⟨q, j, none⟩ (.int .i64 y)) B (.slice a n cap) (R.set i ((R.getD i []).set j y)) V := by
  obtain ⟨h1, h2, h3, h4, h5⟩ := h
  obtain ⟨a', c', hv, hc, hm, hg⟩ := own_form h2
  injection hv with e1 e2 e3
  subst e1 e2 e3
  obtain ⟨g, rfl, hBg, hlt⟩ := hg (by omega)
  have hrow := h3 i hi
  obtain ⟨ra, rc, hrv, hrc, hrm, hrg⟩ := own_form hrow
  obtain ⟨q, rfl, hBq, hqlt⟩ := hrg (by omega)
  have hcell := World.ownsRow.cellAt h2 i (by omega)
  have hVi : V[i]? = some (V.getD i (.slice none 0 0)) := by simp [h1, hi]
  have hrow' := hrow
  rw [hrv] at hrow'
  have hcell2 := World.ownsRow.cellAt hrow' j (by omega)
  refine ⟨g, q, _, rc, _, rfl, hBg, hBq, rfl, rfl, ?_, ?_, World.ownsRow.frozenAt hrow' j, by rw [hrv]; rfl, fun y => ?_⟩
  · rw [hcell, hVi, hrv]
  · rw [hcell2]
    generalize R.getD i [] = l at hj
    simp [hj]
  · have hqg : q ≠ g := fun e => h4 i hi q (by rw [hrv]; rfl) (by rw [e]; rfl)
    refine ⟨by simpa using h1, ?_, ?_, ?_, ?_⟩
    · rw [List.length_set]
      exact ownsRow_keep h2 (fun k hv => Below.heap_setCell _ _ _ _ (by
        simp only [Value.ownBlock, Option.some.injEq] at hv; show k ≠ q; omega))
    · intro t ht
      simp only [List.length_set] at ht
      rw [getD_set _ _ _ _ _ (by omega)]
      by_cases e : t = i
      · subst e
        rw [if_pos rfl, hrv]
        exact Own.set hrow' j y
      · rw [if_neg e]
        refine ownsRow_keep (h3 t ht) (fun k hv => Below.heap_setCell _ _ _ _ ?_)
        show k ≠ q
        intro e2
        subst e2
        exact h5 t i ht hi e k hv (by rw [hrv]; rfl)
    · intro t ht
      simp only [List.length_set] at ht
      exact h4 t ht
    · intro t s ht hs
      simp only [List.length_set] at ht hs
      exact h5 t s ht hs

/-- What is needed to read and to write the entry at i, j. -/
theorem OwnP.at {w : World} {B n cap : Nat} {P : Nat → Prop} {a : Option Addr} {R : List (List Int)} (h : OwnP w B P (.slice a n cap) R) (i j : Nat) (hi : i < n) (hj : j < (R.getD i []).length) :
    ∃ g q L c x, a = some ⟨g, 0, none⟩ ∧ B ≤ g ∧ B ≤ q ∧ P q ∧ L = (R.getD i []).length ∧ x = (R.getD i []).getD j 0 ∧ w.cell? ⟨g, i, none⟩ = some (.slice (some ⟨q, 0, none⟩) L c) ∧ w.cell? ⟨q, j, none⟩ = some (.int .i64 x) ∧ w.frozen? ⟨q, j, none⟩ = false ∧
      ∀ y, OwnP (w.setCell ⟨q, j, none⟩ (.int .i64 y)) B P (.slice a n cap) (R.set i ((R.getD i []).set j y)) := by
  have hn := (OwnP.toM h).len
  obtain ⟨V, h, k1, k2⟩ := h
  obtain ⟨g, q, L, c, x, e1, e2, e3, e4, e5, c1, c2, f, hq, ho⟩ := h.at i j hi hj
  exact ⟨g, q, L, c, x, e1, e2, e3, k2 i (by omega) q hq, e4, e5, c1, c2, f, fun y => ⟨V, ho y, k1, fun i hi => k2 i (by simpa using hi)⟩⟩
theorem OwnV.snocV {w w1 w2 : World} {B q : Nat} {v v' rv : Value} {R : List (List Int)} {V : List Value} {l : List Int} (h : OwnV w B v R V) (hb : Below w.heap.size w w1) (hB : B ≤ w.heap.size) (ho : Own w1 w.heap.size rv l)
    (hw2 : w2.ownsRow B 28 1 v' (R.length + 1) (V ++ [rv])) (hg : ∀ k, k < w1.heap.size → v.ownBlock ≠ some k → w2.heap[k]? = w1.heap[k]?)
    (hvb : v'.ownBlock = v.ownBlock ∨ v'.ownBlock = some q) (hq : w1.heap.size ≤ q) : OwnV w2 B v' (R ++ [l]) (V ++ [rv]) := by
  obtain ⟨h1, h2, h3, h4, h5⟩ := h
  have eV : ∀ j, j < R.length → (V ++ [rv]).getD j (.slice none 0 0) = V.getD j (.slice none 0 0) := fun j hj => by
    simp [List.getD_eq_getElem?_getD, List.getElem?_append_left, h1, hj]
  have eV1 : (V ++ [rv]).getD R.length (.slice none 0 0) = rv := by
    simp [List.getD_eq_getElem?_getD, ← h1]
  have eR : ∀ j, j < R.length → (R ++ [l]).getD j [] = R.getD j [] := fun j hj => by
    simp [List.getD_eq_getElem?_getD, List.getElem?_append_left, hj]
  have eR1 : (R ++ [l]).getD R.length [] = l := by
    simp [List.getD_eq_getElem?_getD]
  have hold : ∀ j, j < R.length → ∀ k, (V.getD j (.slice none 0 0)).ownBlock = some k → k < w.heap.size := fun j hj k hk => (own_lt (h3 j hj) hk).2
  have hvn : ∀ k, k < w1.heap.size → v.ownBlock ≠ some k → v'.ownBlock ≠ some k := fun k hk hne => by
    rcases hvb with e | e
    · rw [e]; exact hne
    · rw [e]; intro e2; simp only [Option.some.injEq] at e2; omega
  have hvold : ∀ k, v.ownBlock = some k → k < w.heap.size := fun k hk => (own_lt h2 hk).2
  have hs := hb.size
  refine ⟨by simp [h1], by simpa using hw2, ?_, ?_, ?_⟩
  · intro j hj
    simp only [List.length_append, List.length_singleton] at hj
    by_cases e : j < R.length
    · rw [eV j e, eR j e]
      exact ownsRow_keep (h3 j e) (fun k hv => by
        have := hold j e k hv
        rw [hg k (by omega) (h4 j e k hv)]; exact hb.block k this)
    · obtain rfl : j = R.length := by omega
      rw [eV1, eR1]
      refine (ownsRow_keep ho (fun k hv => hg k (own_lt ho hv).2 (fun e2 => ?_)) : Own _ _ _ _).mono hB
      have := (own_lt ho hv).1
      have := hvold k e2
      omega
  · intro j hj k hk
    simp only [List.length_append, List.length_singleton] at hj
    by_cases e : j < R.length
    · rw [eV j e] at hk
      have := hold j e k hk
      exact hvn k (by omega) (h4 j e k hk)
    · obtain rfl : j = R.length := by omega
      rw [eV1] at hk
      have := own_lt ho hk
      exact hvn k this.2 (fun e2 => by have := hvold k e2; omega)
  · intro i j hi hj hne k hk
    simp only [List.length_append, List.length_singleton] at hi hj
    by_cases e : i < R.length
    · rw [eV i e] at hk
      by_cases e2 : j < R.length
      · rw [eV j e2]; exact h5 i j e e2 hne k hk
      · obtain rfl : j = R.length := by omega
        rw [eV1]
        intro e3
        have := hold i e k hk
        have := (own_lt ho e3).1
        omega
    · obtain rfl : i = R.length := by omega
      rw [eV1] at hk
      have e2 : j < R.length := by omega
      rw [eV j e2]
      intro e3
      have := hold j e2 k e3
      have := (own_lt ho hk).1
      omega
/-- A row of its own is appended, at a step of a region. -/
theorem step_appendRowP (w0 w : World) {ops : Array Oper} {o : Oper} {a : Act} {K : Act → World → Prop} {Q : Exit → Act → World → Prop} {E : Prop} (hgd : o.guard = none) (s x : Operand)
    (ho : o.op = .call { callee := .builtin .append, args := #[s, x], argTypes := #[24, 24] }) (B : Nat) (P : Nat → Prop) (v rv : Value) (R : List (List Int)) (l : List Int) (n g : Nat) (hn : R.length = n) (hs : a.eval s = v) (hown : OwnP w0 B P v R) (hb : Below w0.heap.size w0 w) (hro : Own w w0.heap.size rv l)
    (hx : a.eval x = .slice (some ⟨g, 0, none⟩) 1 1) (hy : w.cell? ⟨g, 0, none⟩ = some rv) (hlen : n ≤ 2000000) (hB : B ≤ w0.heap.size) (hP : ∀ k, w0.heap.size ≤ k → P k)
    (h : ∀ b' c' w', OwnP w' B P (.slice b' (n + 1) c') (R ++ [l]) → Below B w w' → (∀ k, k < w.heap.size → v.ownBlock ≠ some k → w'.heap[k]? = w.heap[k]?) → K (a.put o.dst (.slice b' (n + 1) c')) w') :
    if Region.wanted o (yielded ops a.tmps) = true then Oper.wp Tryz.prog o a w K Q else E := by
  subst hn
  obtain ⟨i0, hi, hz0, hz1, hz2⟩ := info_parts infoS64
  have hsz := hb.size
  obtain ⟨V, ⟨h1, h2, h3⟩, k1, k2⟩ := hown
  have hwV : w.ownsRow B 28 1 v R.length V := ownsRow_keep h2 (fun k hv => hb.block k (own_lt h2 hv).2)
  refine step_append_lies w hgd s x 24 ho B 28 i0 (.slice none 0 0) 1 24 Tryz.underlying24 hi hz0 hz1 hz2 rfl (by decide) v R.length V hs hwV ⟨g, 0, none⟩ 1 1 [rv] hx rfl ?c1 ?c2 (by decide) ?c3 ?c4 (Nat.le_trans hB hsz) w.heap.size rfl ?_
  case c1 =>
    intro j u hj
    have : j = 0 := by
      cases j with
      | zero => rfl
      | succ j => simp at hj
    subst this
    simp at hj
    subst hj
    exact hy
  case c2 =>
    intro u hu; simp at hu; subst hu
    obtain ⟨b', c', hv', _⟩ := own_form hro
    rw [hv']; rfl
  case c3 => unfold maxLen; omega
  case c4 => omega
  · intro g' cap' w' hown' hgrow hat hlt
    have hg : ∀ k, k < w.heap.size → v.ownBlock ≠ some k → w'.heap[k]? = w.heap[k]? := fun k hk hne => by
      obtain ⟨_, _, _, _, g5⟩ := hgrow
      exact g5 k hk (fun e => hne e.symm)
    have hV := OwnV.snocV (q := w.heap.size) (v' := .slice (some ⟨g', 0, none⟩) (R.length + 1) cap') ⟨h1, h2, h3⟩ hb hB hro hown' hg (by
      rcases hat with e | e
      · left; rw [e]; rfl
      · right; rw [e]; rfl) (Nat.le_refl _)
    refine h _ _ w' ⟨V ++ [rv], hV, fun k hk => ?_, fun i hi k hk => ?_⟩ ((Below.refl B w).grown hgrow (Nat.le_trans hB hsz) (fun k hk => (own_lt h2 hk).1)) hg
    · have hk' : g' = k := by simpa [Value.ownBlock] using hk
      subst hk'
      rcases hat with e | e
      · exact k1 _ e
      · exact hP _ (by omega)
    · have hlen : V.length = R.length := h1
      simp only [List.length_append, List.length_singleton] at hi
      by_cases q : i < R.length
      · rw [List.getD_eq_getElem?_getD, List.getElem?_append_left (by omega), ← List.getD_eq_getElem?_getD] at hk
        exact k2 i q k hk
      · obtain rfl : i = V.length := by omega
        have e : (V ++ [rv]).getD V.length (.slice none 0 0) = rv := by simp [List.getD_eq_getElem?_getD]
        rw [e] at hk
        exact hP k (own_lt hro hk).1
end Go.Proofs.YtmhpgnndjagogaaGreat.V

namespace Go.Proofs.YtmhpgnndjagogaaGreat
namespace M
/-- The steps to all nodes. -/
def stL (R : List (List Int)) (v : Nat) : List Int := (List.range R.length).map fun u => st R v u
theorem stL_get {R : List (List Int)} {v u : Nat} (h : u < R.length) : (stL R v).getD u 0 = st R v u := by simp [stL, h]
/-- The counted matrix as it is filled: S are all arcs, L those still to come. -/
def cntG (S L : Nat → Nat → Bool) (i j : Nat) : Int := if S j i && !L j i then -1 else -1000000000000000
theorem gIz (a : Int) (h : 0 ≤ a) : 0 ≤ gI a 0 ∧ 0 ≤ a := ⟨by unfold gI; omega, h⟩
end M
namespace V
set_option maxRecDepth 100000
open Go.RowKit Go.Maps
theorem own_lit1c (w : World) (B : Nat) (x : Int) (hB : B ≤ w.heap.size) : Own (w.alloc (.cells #[.int .i64 x] 2)) B (.slice (some ⟨w.heap.size, 0, none⟩) 1 1) [x] := World.ownsRow_lit w #[.int .i64 x] 1 hB (by decide) rfl
theorem cntG_put {n f t : Nat} {S L : Nat → Nat → Bool} (hf : f < n) (ht : t < n) (hS : S f t = true) : (M.mk n n (M.cntG S L)).set t (((M.mk n n (M.cntG S L)).getD t []).set f (-1)) = M.mk n n (M.cntG S (strike L f t)) := by
  rw [M.mk_set _ _ _ _ _ _ ht]
  refine M.mk_congr fun i _ j _ => ?_
  unfold M.cntG strike
  by_cases e : i = t ∧ j = f
  · obtain ⟨rfl, rfl⟩ := e
    simp [hS]
  · have e0 : (if i = t then (if j = f then (-1 : Int) else if (S j i && !L j i) = true then -1 else -1000000000000000) else if (S j i && !L j i) = true then -1 else -1000000000000000) = if (S j i && !L j i) = true then -1 else -1000000000000000 := by
      by_cases p : i = t
      · rw [if_pos p, if_neg (fun q => e ⟨p, q⟩)]
      · rw [if_neg p]
    rw [e0]
    have : (decide (j = f) && decide (i = t)) = false := by
      by_cases p : j = f
      · by_cases q : i = t
        · exact absurd ⟨q, p⟩ e
        · simp [q]
      · simp [p]
    rw [this]; simp
theorem cntG_start {n : Nat} {S : Nat → Nat → Bool} : (M.mk n n fun _ _ => (-1000000000000000 : Int)) = M.mk n n (M.cntG S S) := M.mk_congr fun i _ j _ => by unfold M.cntG; simp
theorem cntG_end {R : List (List Int)} {n : Nat} {L : Nat → Nat → Bool} (hn : R.length = n) (hL : ∀ f t, f < n → t < n → L f t = false) : M.mk n n (M.cntG (M.crB R) L) = M.mk n n (M.cntF R) := M.mk_congr fun i hi j hj => by unfold M.cntG M.cntF; rw [hL j i hj hi]; simp
set_option maxRecDepth 100000 in
set_option maxHeartbeats 4000000 in
theorem stepsFrom (R : List (List Int)) (n m b v : Nat) (w : World) (hn : R.length = n) (hI : IsArcs w b n m (M.crB R)) (n1 : 1 ≤ n) (n2 : n ≤ 10) (hv : v < n) :
    Calls Tryz.prog 147 #[.map (some b), .int .i64 n, .int .i64 v] w fun e w' => ∃ b' c, e = .returned (.slice b' n c) ∧ Own w' w.heap.size (.slice b' n c) (M.stL R v) ∧ Below w.heap.size w w' := by
  have HRn := Lib.hid hn
  have HI := Lib.hid hI
  have hbl := hI.lt
  have hvi : (v : Int) < (n : Int) := by omega
  have HSm : Hid (∀ i j, i < n → j < n → M.Sm 1000001000000 (M.ent (M.mk n n (M.cntF R)) i j)) := fun i j hi hj => by rw [M.ent_mk _ _ _ _ _ hi hj]; exact M.sm_wide (M.cnt_sm R i j)
  have HNp : Hid (M.noPos (M.ent (M.mk n n (M.cntF R))) n = true) := by
    show _ = _
    rw [M.noPos_mk, ← hn]; exact M.cnt_noPos (by omega)
  have HSt : Hid (M.starL (M.mk n n (M.cntF R)) n = (M.mk n n (M.starF (M.cntF R) n), true)) := by
    show _ = _
    unfold M.starL
    rw [HNp.out, if_pos rfl, M.starM_mk]
  have HRow : Hid ((M.mk n n fun i j => M.ent (M.mk n n (M.starF (M.cntF R) n)) j i).getD v [] = M.stL R v) := by
    show _ = _
    rw [M.mk_row _ _ _ _ hv]
    unfold M.stL M.st
    rw [hn]
    exact List.map_congr_left fun j hj => M.ent_mk _ _ _ _ _ (List.mem_range.1 hj) hv
  have HLen : Hid ((M.stL R v).length = n) := by show _ = _; unfold M.stL; simp [hn]
  clear hI hn
  go_enter Tryz.func147, Tryz.ntmps147
  go_wp2_with fail
  refine (filled n n (-1000000000000000) _ n1 n2 n1 n2).mono ?_
  rintro e w1 ⟨a1, c1, rfl, ho, hb⟩
  rw [cntG_start (S := M.crB R)] at ho
  obtain ⟨g1, -, -, -, -, rfl, -⟩ := ho.tri (rect_mk _ _ _) 0 0 0 (by omega) (by omega) (by omega)
  have HO1 : Hid (OwnP w1 w.heap.size (fun k => k < w1.heap.size) (.slice (some ⟨g1, 0, none⟩) n c1) (M.mk n n (M.cntG (M.crB R) (M.crB R)))) := ho.toP fun k _ h => h
  have HB1 := Lib.hid hb
  have HI1 := Lib.hid (HI.out.below hb hbl)
  have hz1 : w.heap.size ≤ w1.heap.size := hb.size
  clear ho hb
  go_wp2_with (first | (at_range; refine wpList_rangeA _ rfl _ rfl b n m (M.crB R) rfl HI1.out ?_; intro w0 cnt hr hcm hg hz))
  go_frame
  have HR0 := Lib.hid hr
  have HZ0 := Lib.hid hz
  have HO0 : Hid (OwnP w0 w.heap.size (fun k => k < w1.heap.size) (.slice (some ⟨g1, 0, none⟩) n c1) (M.mk n n (M.cntG (M.crB R) (M.crB R)))) := HO1.out.keep fun j _ h1 h2 => hg.block j h2 (by intro e; cases e)
  have HB0 : Hid (Below w.heap.size w w0) := HB1.out.grown hg hz1 (fun j hj => by cases hj)
  clear hr hg hz HO1
  go_loopw [8] (fun _ wr => ∃ (L : Nat → Nat → Bool) (k : Nat), Hid (RngA wr b w1.heap.size n m (M.crB R) L k) ∧ Hid (OwnP wr w.heap.size (fun k => k < w1.heap.size) (.slice (some ⟨g1, 0, none⟩) n c1) (M.mk n n (M.cntG (M.crB R) L))) ∧ Hid (Below w.heap.size w wr) ∧ w1.heap.size + 1 ≤ wr.heap.size) (fun _ wr => wr.rangeLeft b w1.heap.size)
  case atStart => exact ⟨M.crB R, cnt, HR0, HO0, HB0, by rw [HZ0.out]; exact Nat.le_refl _⟩
  case round =>
    obtain ⟨L, k, HR, HO, HB, hsz⟩ := hrel
    clear HR0 HO0 HB0
    go_wp2_with (first | (at_next; refine wpList_nextA _ rfl _ rfl b _ n m (M.crB R) L k n2 rfl HR.out ?_ ?_))
    · intro hl0
      have HOe : Hid (OwnM wr w.heap.size (.slice (some ⟨g1, 0, none⟩) n c1) (M.mk n n (M.cntF R))) := by
        show OwnM _ _ _ _
        rw [← cntG_end HRn.out hl0]
        exact HO.out.toM
      clear hl0 HO HR
      go_wp2_with fail
      refine (starOf _ _ _ (M.mk n n (M.cntF R)) _ ⟨HOe.out.mat, rect_mk _ _ _, HSm.out, n1, n2⟩).mono ?_
      rintro e w2 ⟨b2, n2', c2, rfl, ho, hb⟩
      rw [HSt.out] at ho ⊢
      have hn2 : n2' = n := by rw [ho.len]; simp
      subst hn2
      have HO2 := Lib.hid ho.mat
      have HB2 := Lib.hid (HB.out.trans (hb.mono HB.out.size))
      clear ho hb
      go_wp2_with fail
      refine (transposed _ _ _ n2' (M.mk n2' n2' (M.starF (M.cntF R) n2')) _ HO2.out (rect_mk _ _ _) n1 n2 n1 n2).mono ?_
      rintro e w3 ⟨b3, c3, rfl, ho, hb⟩
      obtain ⟨g3, ra3, rc3, rfl, hcr, hro⟩ := ho.row v hv
      rw [HRow.out, HLen.out] at hcr hro
      have HRo := Lib.hid (hro.mono (B' := w.heap.size) HB2.out.size)
      have HB3 := Lib.hid (HB2.out.trans (hb.mono HB2.out.size))
      clear ho hb hro
      go_wp2
      go_ret
      exact ⟨_, _, rfl, HRo.out, HB3.out⟩
    · intro f t w2 k2 hf ht hl hs hr2 hlt hg2 hs2 hen
      have HR2 := Lib.hid hr2
      have HO2 : Hid (OwnP w2 w.heap.size (fun k => k < w1.heap.size) (.slice (some ⟨g1, 0, none⟩) n c1) (M.mk n n (M.cntG (M.crB R) L))) := HO.out.keep fun j h1 h2 h3 => hg2.block j h3 (by intro e; injection e with e; omega)
      have HB2 := Lib.hid (HB.out.grown hg2 HB.out.size (fun j hj => by cases hj; exact hz1))
      have HLt := Lib.hid hlt
      have HS2 := Lib.hid hs2
      obtain ⟨wa, hwa⟩ : ∃ x, x = w2.alloc (.cells #[.int .i64 (f : Int), .int .i64 (t : Int)] 133) := ⟨_, rfl⟩
      have ca0 : wa.cell? ⟨w2.heap.size, 0, none⟩ = some (.int .i64 (f : Int)) := by rw [hwa]; simp [go_sem]
      have ca1 : wa.cell? ⟨w2.heap.size, 1, none⟩ = some (.int .i64 (t : Int)) := by rw [hwa]; simp [go_sem]
      have hbA : Below w2.heap.size w2 wa := by rw [hwa]; exact b_alloc _ _
      have hzA : wa.heap.size = w2.heap.size + 1 := by rw [hwa]; simp
      have HOA := Lib.hid (HO2.out.below hbA)
      have HRA := Lib.hid (HR2.out.blocks (hbA.block b (by omega)) (hbA.block w1.heap.size (by omega)))
      have HBA := Lib.hid (HB2.out.trans (hbA.mono (by omega)))
      have HZA := Lib.hid hzA
      obtain ⟨g9, q, L9, c9, x9, hgg, -, hq, hqP, hL9, -, d1, d2, d3, hset⟩ := HOA.out.at t f ht (by rw [M.mk_rowlen _ _ _ _ ht]; exact hf)
      injection hgg with hgg
      injection hgg with hgg
      subst hgg
      rw [M.mk_rowlen _ _ _ _ ht] at hL9
      subst hL9
      have hN := hset (-1)
      rw [cntG_put hf ht hs] at hN
      have HN := Lib.hid hN
      have hfi : (f : Int) < (L9 : Int) := by omega
      have hti : (t : Int) < (L9 : Int) := by omega
      clear hr2 hg2 hs2 hl hlt hN hset hbA
      go_wp2_with fail
      simp only [← hwa]
      clear hwa hen
      go_still_tail 8, (by kernel_rfl)
      change wpList _ _ _ _ _ wa.drew
      have HRn : Hid (RngA (wa.setCell ⟨q, f, none⟩ (.int .i64 (-1))).drew b w1.heap.size L9 m (M.crB R) (strike L f t) k2) := HRA.out.blocks (Below.heap_setCell _ _ _ _ (by show b ≠ q; omega)) (Below.heap_setCell _ _ _ _ (by show w1.heap.size ≠ q; omega))
      go_wp2
      go_roundw
      case rel => exact ⟨strike L f t, k2, HRn, HN.out.keep (fun _ _ _ _ => rfl), HBA.out.drew.setCell (by omega) _, by have := HZA.out; have := HS2.out; simp; omega⟩
      case measure => rw [HRn.out.left_eq, HR.out.left_eq]; exact HLt.out
theorem gI_small {p x : Int} (p1 : 0 ≤ p) (p2 : p ≤ 100) (x1 : -100 ≤ x) (x2 : x ≤ 100) : 0 ≤ M.gI p x ∧ M.gI p x ≤ 100 := by
  unfold M.gI
  refine ⟨by omega, ?_⟩
  by_cases h : p = 0
  · subst h
    rw [Int.gcd_zero_left]; omega
  · have := Int.le_of_dvd (a := ((Int.gcd p x : Nat) : Int)) (b := p) (by omega) (Int.gcd_dvd_left p x)
    omega
/-- What the program's period is made of when the arcs L are still to come. -/
def ArcL (R : List (List Int)) (L : Nat → Nat → Bool) (v : Nat) (d : Int) : Prop := ∀ u t, u < R.length → t < R.length → M.crB R u t = true → L u t = false → M.st R v u ≠ -1000000000000000 → d ∣ M.st R v u - 1 - M.st R v t
theorem arcL_strike {R : List (List Int)} {L : Nat → Nat → Bool} {v u t : Nat} {d : Int} (hu : u < R.length) (ht : t < R.length) (hc : M.crB R u t = true) : ArcL R (strike L u t) v d ↔ ArcL R L v d ∧ (M.st R v u ≠ -1000000000000000 → d ∣ M.st R v u - 1 - M.st R v t) := by
  have hs : strike L u t u t = false := by unfold strike; simp
  constructor
  · intro h
    refine ⟨fun u' t' a b c e s => h u' t' a b c (by unfold strike; rw [e]; rfl) s, fun s => h u t hu ht hc hs s⟩
  · rintro ⟨h1, h2⟩ u' t' a b c e s
    by_cases q : u' = u ∧ t' = t
    · obtain ⟨rfl, rfl⟩ := q
      exact h2 s
    · refine h1 u' t' a b c ?_ s
      unfold strike at e
      have : (decide (u' = u) && decide (t' = t)) = false := by
        by_cases p1 : u' = u
        · by_cases p2 : t' = t
          · exact absurd ⟨p1, p2⟩ q
          · simp [p2]
        · simp [p1]
      rw [this] at e
      simpa using e
set_option maxRecDepth 100000 in
set_option maxHeartbeats 4000000 in
theorem periodOf (R : List (List Int)) (n m b v : Nat) (w : World) (hn : R.length = n) (hs : M.sqB R = true) (hc : M.hasCyc (M.ent R) R.length = true) (hI : IsArcs w b n m (M.crB R)) (hv : v < n) :
    Calls Tryz.prog 88 #[.map (some b), .int .i64 n, .int .i64 v] w fun e w' => e = .returned (.int .i64 (M.perL R (M.compL (M.ent (M.crM R)) R.length v))) ∧ Below w.heap.size w w' := by
  subst hn
  obtain ⟨n1, n2, -⟩ := M.sq_sm hs
  have HI := Lib.hid hI
  have hbl := hI.lt
  have HBd := Lib.hid (fun u t (hu : u < R.length) (ht : t < R.length) (h : M.crB R u t = true) (h' : M.st R v u ≠ -1000000000000000) => M.arc_bd hs hc hv hu ht h h')
  have HPe := Lib.hid (fun x (hx : 0 ≤ x) H => M.per_eq hs hc hv (x := x) hx H)
  generalize hres : M.perL R (M.compL (M.ent (M.crM R)) R.length v) = res at *
  clear hres hs hc hI
  go_enter Tryz.func88, Tryz.ntmps88
  go_wp2_with fail
  refine (stepsFrom R R.length m b v _ rfl HI.out n1 n2 hv).mono ?_
  rintro e w1 ⟨b1, c1, rfl, ho, hb⟩
  obtain ⟨g1, o1, x1, rfl, -⟩ := ho.ints'.at 0 (by omega)
  have HO1 : Hid (Ints .i64 w1 (some ⟨g1, o1, none⟩) R.length (M.stL R v)) := ho.ints'
  have HB1 := Lib.hid hb
  have HI1 := Lib.hid (HI.out.below hb hbl)
  have hz1 : w.heap.size ≤ w1.heap.size := hb.size
  clear ho hb
  go_wp2_with (first | (at_range; refine wpList_rangeA _ rfl _ rfl b R.length m (M.crB R) rfl HI1.out ?_; intro w0 cnt hr hcm hg hz))
  go_frame
  have HR0 := Lib.hid hr
  have HZ0 := Lib.hid hz
  have HO0 := Lib.hid (HO1.out.below (w' := w0) ((Below.refl w1.heap.size w1).grown hg (Nat.le_refl _) (fun j hj => by cases hj)))
  have HB0 : Hid (Below w.heap.size w w0) := HB1.out.grown hg hz1 (fun j hj => by cases hj)
  have HB01 : Hid (Below w1.heap.size w1 w0) := (Below.refl w1.heap.size w1).grown hg (Nat.le_refl _) (fun j hj => by cases hj)
  clear hr hg hz HO0
  go_loopw [8, 9] (fun pv _ wr => ∃ (L : Nat → Nat → Bool) (k : Nat) (p : Int), pv = .int .i64 p ∧ 0 ≤ p ∧ p ≤ 100 ∧ Hid (∀ d, d ∣ p ↔ ArcL R L v d) ∧ Hid (RngA wr b w1.heap.size R.length m (M.crB R) L k) ∧ Hid (Below w.heap.size w wr) ∧ Hid (Below w1.heap.size w1 wr) ∧ w1.heap.size + 1 ≤ wr.heap.size) (fun _ _ wr => wr.rangeLeft b w1.heap.size)
  case atStart => exact ⟨M.crB R, cnt, 0, rfl, by omega, by omega, fun d => ⟨fun _ u t _ _ h h2 _ => (by rw [h] at h2; cases h2), fun _ => Int.dvd_zero _⟩, HR0, HB0, HB01, by rw [HZ0.out]; exact Nat.le_refl _⟩
  case round =>
    obtain ⟨L, k, p, rfl, p1, p2, HD, HR, HB, HBo, hsz⟩ := hrel
    clear HR0 HB0 HB01
    go_wp2_with (first | (at_next; refine wpList_nextA _ rfl _ rfl b _ R.length m (M.crB R) L k n2 rfl HR.out ?_ ?_))
    · intro hl0
      have hE : p = res := HPe.out p p1 fun d => (HD.out d).trans ⟨fun h u t a b c s => h u t a b c (hl0 u t a b) s, fun h u t a b c _ s => h u t a b c s⟩
      have HE := Lib.hid hE
      clear hE hl0
      go_wp2
      go_ret
      rw [HE.out]
      exact ⟨rfl, HB.out⟩
    · intro f t w2 k2 hf ht hl hs hr2 hlt hg2 hs2 hen
      have HR2 := Lib.hid hr2
      have HB2 := Lib.hid (HB.out.grown hg2 HB.out.size (fun j hj => by cases hj; exact hz1))
      have HBo2 := Lib.hid (HBo.out.grown hg2 HBo.out.size (fun j hj => by cases hj; exact Nat.le_refl _))
      have HLt := Lib.hid hlt
      have HS2 := Lib.hid hs2
      obtain ⟨wa, hwa⟩ : ∃ x, x = w2.alloc (.cells #[.int .i64 (f : Int), .int .i64 (t : Int)] 133) := ⟨_, rfl⟩
      have ca0 : wa.cell? ⟨w2.heap.size, 0, none⟩ = some (.int .i64 (f : Int)) := by rw [hwa]; simp [go_sem]
      have ca1 : wa.cell? ⟨w2.heap.size, 1, none⟩ = some (.int .i64 (t : Int)) := by rw [hwa]; simp [go_sem]
      have hbA : Below w2.heap.size w2 wa := by rw [hwa]; exact b_alloc _ _
      have hzA : wa.heap.size = w2.heap.size + 1 := by rw [hwa]; simp
      have HRA := Lib.hid (HR2.out.blocks (hbA.block b (by omega)) (hbA.block w1.heap.size (by omega)))
      have HBA := Lib.hid (HB2.out.trans (hbA.mono (by omega)))
      have HBoA := Lib.hid (HBo2.out.trans (hbA.mono (by omega)))
      have HZA := Lib.hid hzA
      obtain ⟨gg, oo, x, hgx, -, hx, cx⟩ := (HO1.out.below HBoA.out).at f hf
      injection hgx with hgx
      injection hgx with e1 e2
      subst e1 e2
      obtain ⟨gg, oo, y, hgy, -, hy, cy⟩ := (HO1.out.below HBoA.out).at t ht
      injection hgy with hgy
      injection hgy with e1 e2
      subst e1 e2
      rw [M.stL_get hf] at hx
      rw [M.stL_get ht] at hy
      have hfi : (f : Int) < (R.length : Int) := by omega
      have hti : (t : Int) < (R.length : Int) := by omega
      have HDn := Lib.hid (fun d => (arcL_strike (R := R) (L := L) (v := v) (d := d) hf ht hs))
      have HXB := Lib.hid (HBd.out f t hf ht hs)
      rw [← hx, ← hy] at HXB HDn
      clear hr2 hg2 hs2 hl hlt hbA hx hy hs
      subst hwa
      by_cases hxb : x = -1000000000000000
      · subst hxb
        have HD2 : Hid (∀ d, d ∣ p ↔ ArcL R (strike L f t) v d) := fun d => by rw [HDn.out d, HD.out d]; exact ⟨fun h => ⟨h, fun e => absurd rfl e⟩, fun h => h.1⟩
        go_wp2
        go_roundw
        case rel => exact ⟨strike L f t, k2, p, rfl, p1, p2, HD2, HRA, HBA, HBoA, by have := HZA.out; have := HS2.out; omega⟩
        case measure => rw [HRA.out.left_eq, HR.out.left_eq]; exact HLt.out
      · have hxn : (x != -1000000000000000) = true := by simpa using hxb
        obtain ⟨x1, x2, y1, y2⟩ := HXB.out hxb
        have HD2 : Hid (∀ d, d ∣ M.gI p (x - 1 - y) ↔ ArcL R (strike L f t) v d) := fun d => by rw [HDn.out d, M.gI_iff, HD.out d]; exact ⟨fun h => ⟨h.1, fun _ => h.2⟩, fun h => ⟨h.1, h.2 hxb⟩⟩
        obtain ⟨g1', g2'⟩ := gI_small (p := p) (x := x - 1 - y) p1 p2 (by omega) (by omega)
        have HC : ∀ w : World, Calls Tryz.prog 95 #[.int .i64 p, .int .i64 (x - 1 - y)] w fun e w' => e = .returned (.int .i64 (M.gI p (x - 1 - y))) ∧ w = w' := fun w => divisor p (x - 1 - y) w (by omega) (by omega) (by omega) (by omega)
        have HCh := Lib.hid HC
        obtain ⟨q, hq⟩ : ∃ q, q = M.gI p (x - 1 - y) := ⟨_, rfl⟩
        rw [← hq] at g1' g2' HD2 HCh
        clear HC hq hxb HXB HDn
        go_wp2
        go_quiet ((go_at_call 95; exact q_one_s (HCh.out _)))
        generalize hwq : World.drewN _ _ = wq
        have HRn : Hid (RngA wq b w1.heap.size R.length m (M.crB R) (strike L f t) k2) := by show RngA _ _ _ _ _ _ _ _; rw [← hwq]; exact HRA.out.blocks rfl rfl
        have HBn : Hid (Below w.heap.size w wq) := by show Below _ _ _; rw [← hwq]; exact below_drewN HBA.out _
        have HBn2 : Hid (Below w1.heap.size w1 wq) := by show Below _ _ _; rw [← hwq]; exact below_drewN HBoA.out _
        have HZn : Hid (w1.heap.size + 1 ≤ wq.heap.size) := by show _ ≤ _; rw [← hwq]; have := HZA.out; have := HS2.out; simp; omega
        clear hwq
        go_wp2
        go_roundw
        case rel => exact ⟨strike L f t, k2, q, rfl, g1', g2', HD2, HRn, HBn, HBn2, HZn.out⟩
        case measure => rw [HRn.out.left_eq, HR.out.left_eq]; exact HLt.out
theorem mem_nodes {R : List (List Int)} {v : Nat} (hv : v < R.length) : M.crN R v = true ↔ (v : Int) ∈ M.nodesL R := by
  rw [M.mem_nodesL]
  constructor
  · intro h; exact ⟨v, hv, h, rfl⟩
  · rintro ⟨f, _, h, e⟩
    have : v = f := by omega
    rw [this]; exact h
theorem nodes1c {n : Nat} {x : Int} : M.nodesB n [x] = M.inN n x := by
  unfold M.nodesB
  simp
set_option maxRecDepth 100000 in
set_option maxHeartbeats 4000000 in
theorem periodAt (a : Option Addr) (n cap : Nat) (R : List (List Int)) (x : Int) (w : World) (h : Mat w a n R) :
    Calls Tryz.prog 35 #[.slice a n cap, .int .i64 x] w fun e w' => e = .returned (.tuple #[.int .i64 (M.perRes R x).1, .int .i64 (M.perRes R x).2]) ∧ Below w.heap.size w w' := by
  have HA := Lib.hid h
  have hRn : R.length = n := h.1
  by_cases hk : M.crCode R = 0
  · obtain ⟨hs, hc⟩ := M.cr_code hk
    obtain ⟨-, n1, n2, -⟩ := sq_parts h hs
    have HS := Lib.hid hs
    have HC := Lib.hid hc
    have HRn := Lib.hid hRn
    obtain ⟨bi, hbi⟩ : ∃ bi, bi = M.inN n x := ⟨_, rfl⟩
    have HNb : Hid (M.nodesB n [x] = bi) := nodes1c.trans hbi.symm
    cases bi with
    | false =>
      have HE : Hid (M.perRes R x = (0, 2)) := by show _ = _; unfold M.perRes; rw [if_pos hk, hRn, ← hbi]; rfl
      clear h hk hs hc hRn hbi
      go_enter Tryz.func35, Tryz.ntmps35
      go_wp2_with fail
      refine (criticalArcs _ _ _ R _ HA.out HS.out HC.out).mono ?_
      rintro e w1 ⟨b1, m1, rfl, -, -, -, hb⟩
      have HB1 := Lib.hid hb
      clear hb
      go_wp2_with (go_at_call 86; refine (areNodes_b _ n _ _ _ _ _ _ false HNb.out (by omega) (own_lit1c _ 0 _ (Nat.zero_le _)).ints').mono ?_; rintro e w' ⟨rfl, rfl⟩)
      go_ret2
      rw [HE.out]
      exact ⟨rfl, HB1.out.alloc HB1.out.size _⟩
    | true =>
      obtain ⟨v, hv, rfl⟩ := M.inN_j hbi.symm
      have HE0 : Hid (M.perRes R (v : Int) = if M.crN R v then (M.perL R (M.compL (M.ent (M.crM R)) R.length v), 0) else (0, 5)) := by show _ = _; unfold M.perRes; rw [if_pos hk, hRn, ← hbi]; simp
      obtain ⟨t, ht⟩ : ∃ t, t = M.crN R v := ⟨_, rfl⟩
      have HIn : Hid (t = true ↔ (v : Int) ∈ M.nodesL R) := by show _ ↔ _; rw [ht]; exact mem_nodes (by rw [hRn]; exact hv)
      rw [← ht] at HE0
      clear h hk hs hc hRn hbi ht
      go_enter Tryz.func35, Tryz.ntmps35
      go_wp2_with fail
      refine (criticalArcs _ _ _ R _ HA.out HS.out HC.out).mono ?_
      rintro e w1 ⟨b1, m1, rfl, -, hm1, hI, hb⟩
      have HI := Lib.hid hI
      have HB1 := Lib.hid hb
      have hb1l := hI.lt
      clear hb hI
      obtain ⟨wa, hwa⟩ : ∃ x, x = w1.alloc (.cells #[.int .i64 (v : Int)] 2) := ⟨_, rfl⟩
      have hbA : Below w1.heap.size w1 wa := by rw [hwa]; exact b_alloc _ _
      have HIa := Lib.hid (HI.out.below hbA hb1l)
      have HBa := Lib.hid (HB1.out.trans (hbA.mono HB1.out.size))
      have HLa : Hid (Ints .i64 wa (some ⟨w1.heap.size, 0, none⟩) 1 [(v : Int)]) := by show Ints _ _ _ _ _; rw [hwa]; exact (own_lit1c _ 0 _ (Nat.zero_le _)).ints'
      clear hbA
      go_wp2_with fail
      simp only [← hwa]
      clear hwa
      refine (areNodes_b _ n _ _ _ _ _ _ true HNb.out (by omega) HLa.out).mono ?_
      rintro e w' ⟨rfl, rfl⟩
      go_wp2_with fail
      refine (criticalNodes n m1 b1 _ _ HIa.out n2 hm1).mono ?_
      rintro e w2 ⟨b2, c2, l, rfl, ho, ⟨ss, hl, hss⟩, hb⟩
      have hN : l = M.nodesL R := by rw [hl]; exact M.srt_nodes fun x => by rw [HRn.out]; exact hss x
      have HO2 := Lib.hid ho.ints'
      have HB2 := Lib.hid (HBa.out.trans (hb.mono HBa.out.size))
      have HI2 := Lib.hid (HIa.out.below hb HIa.out.lt)
      have HIn2 : Hid (t = true ↔ (v : Int) ∈ l) := by show _ ↔ _; rw [hN]; exact HIn.out
      clear hl hss hb hN ho
      cases t with
      | false =>
        have HE : Hid (M.perRes R (v : Int) = (0, 5)) := HE0.out
        go_wp2_with (go_at_call 78; refine (containsI b2 l.length c2 l (v : Int) false _ HO2.out HIn2.out).mono ?_; rintro e w' ⟨rfl, rfl⟩)
        go_ret2
        rw [HE.out]
        exact ⟨rfl, HB2.out⟩
      | true =>
        have HE : Hid (M.perRes R (v : Int) = (M.perL R (M.compL (M.ent (M.crM R)) R.length v), 0)) := HE0.out
        have HIm : Hid ((v : Int) ∈ l) := HIn2.out.1 rfl
        clear HIn2
        go_wp2_with (go_at_call 78; refine (containsI b2 l.length c2 l (v : Int) true _ HO2.out ⟨fun _ => HIm.out, fun _ => rfl⟩).mono ?_; rintro e w' ⟨rfl, rfl⟩)
        refine (periodOf R n m1 b1 v _ HRn.out HS.out HC.out HI2.out hv).mono ?_
        rintro e w3 ⟨rfl, hb⟩
        have HB3 := Lib.hid (HB2.out.trans (hb.mono HB2.out.size))
        clear hb
        go_wp2
        go_ret2
        rw [HE.out]
        exact ⟨rfl, HB3.out⟩
  · have HC := Lib.hid hk
    obtain ⟨k, hkk⟩ : ∃ k, k = M.crCode R := ⟨_, rfl⟩
    have HE : Hid (M.perRes R x = (0, k)) := by show _ = _; unfold M.perRes; rw [if_neg hk, hkk]
    have HK := Lib.hid hkk
    have hk0 : (k != 0) = true := by rw [hkk]; simpa using hk
    clear h hk hkk hRn
    go_enter Tryz.func35, Tryz.ntmps35
    go_wp2_with fail
    refine (criticalArcs_no _ _ _ R _ HA.out HC.out).mono ?_
    rintro e w1 ⟨rfl, hb⟩
    rw [← HK.out]
    have HB := Lib.hid hb
    clear hb
    go_wp2
    go_ret2
    rw [HE.out]
    exact ⟨rfl, HB.out⟩
set_option maxRecDepth 100000 in
set_option maxHeartbeats 4000000 in
theorem cyclicity (a : Option Addr) (n cap : Nat) (R : List (List Int)) (w : World) (h : Mat w a n R) :
    Calls Tryz.prog 37 #[.slice a n cap] w fun e w' => e = .returned (.tuple #[.int .i64 (M.cycloRes R).1, .int .i64 (M.cycloRes R).2]) ∧ Below w.heap.size w w' := by
  have HA := Lib.hid h
  have hRn : R.length = n := h.1
  by_cases hk : M.crCode R = 0
  · obtain ⟨hs, hc⟩ := M.cr_code hk
    obtain ⟨-, n1, n2, -⟩ := sq_parts h hs
    have HS := Lib.hid hs
    have HC := Lib.hid hc
    have HRn := Lib.hid hRn
    have HCm : Hid ((M.crComps R).length ≤ n) := by show _; rw [← hRn]; exact M.crComps_len R
    have HCb := Lib.hid (fun k (hk : k ≤ (M.crComps R).length) => M.cycP_big hs hc hk (by have := M.crComps_len R; omega))
    have HAt : Hid (∀ k, k < (M.crComps R).length → ∃ (v : Nat) (p : Int), v < n ∧ ((M.crComps R).getD k []).getD 0 0 = (v : Int) ∧ 1 ≤ ((M.crComps R).getD k []).length ∧ M.perL R (M.compL (M.ent (M.crM R)) R.length v) = p ∧ 1 ≤ p ∧ p ≤ 10 ∧ M.cycP R (k + 1) = M.cycP R k * p.tdiv (M.gI (M.cycP R k) p) ∧ 1 ≤ M.gI (M.cycP R k) p) := fun k hk => by
      obtain ⟨v, hv, -, e, e2, e3⟩ := M.comp_at hk
      have hp := M.comp_per hs hc hk
      have hb := (M.cycP_big hs hc (k := k) (by omega) (by have := M.crComps_len R; omega)).1
      refine ⟨v, M.perL R ((M.crComps R).getD k []), by omega, e2, e3, by rw [e], hp.1, by omega, ?_, M.gI_pos hb⟩
      rw [M.cycP_next hk]
      exact (M.lcm_two hb hp.1).1.symm
    obtain ⟨F, hF⟩ : ∃ F, F = M.cycP R := ⟨_, rfl⟩
    have HE : Hid (M.cycloRes R = (F (M.crComps R).length, 0)) := by show _ = _; unfold M.cycloRes; rw [if_pos hk, hF]
    rw [← hF] at HCb HAt
    have HF0 : Hid (F 0 = 1) := by show _ = _; rw [hF]; rfl
    clear h hk hs hc hRn hF
    go_enter Tryz.func37, Tryz.ntmps37
    go_wp2_with fail
    refine (criticalArcs _ _ _ R _ HA.out HS.out HC.out).mono ?_
    rintro e w1 ⟨b1, m1, rfl, -, hm1, hI, hb⟩
    have HI := Lib.hid hI
    have HB1 := Lib.hid hb
    have hb1l := hI.lt
    clear hb hI
    go_wp2_with fail
    refine (criticalComponents _ _ _ R b1 m1 _ (HA.out.below HB1.out) HS.out HI.out hm1).mono ?_
    rintro e w2 ⟨b2, m2, c2, rfl, ho, hb⟩
    have hm2 := ho.len
    have hcm := HCm.out
    rw [← hm2] at hcm
    have HM2 := Lib.hid hm2
    have HL2 := Lib.hid ho.mat
    have HI2 := Lib.hid (HI.out.below hb hb1l)
    have HB2 := Lib.hid (HB1.out.trans (hb.mono HB1.out.size))
    have hz2 := HB2.out.size
    have hb2l := HI2.out.lt
    clear ho hb hm2
    generalize hLC : M.crComps R = LC at *
    clear hLC
    go_wp2
    go_loopw [6, 8, 9, 22] (fun ov _ _ kv wr => ∃ (k : Nat) (q : Int), k ≤ m2 ∧ kv = .int .i64 k ∧ ov = .int .i64 q ∧ Hid (F k = q) ∧ Below w2.heap.size w2 wr) (fun _ _ _ kv _ => m2 - (intOf kv).toNat)
    case atStart => exact ⟨0, 1, Nat.zero_le _, rfl, rfl, HF0, Below.refl _ _⟩
    case round =>
      obtain ⟨k, q, hk, rfl, rfl, HK, hb⟩ := hrel
      have HB := Lib.hid hb
      have hzr : w2.heap.size ≤ wr.heap.size := hb.size
      clear hb
      obtain ⟨q1, q2⟩ := HCb.out k (by have := HM2.out; omega)
      rw [HK.out] at q1 q2
      by_cases hkl : k < m2
      · have hki : (k : Int) < (m2 : Int) := by omega
        obtain ⟨v, p, hv, l1, l2, l3, p1, p2, l4, g1⟩ := HAt.out k (by have := HM2.out; omega)
        obtain ⟨ab, ao, rb, ro, L, rc, x, rfl, hL, hx, d1, d2⟩ := (HL2.out.below HB.out).ent k 0 hkl (by omega)
        rw [l1] at hx
        rw [← hL] at l2
        subst hx
        rw [Nat.add_zero] at d2
        have hL0 : (0 : Int) < (L : Int) := by omega
        rw [HK.out] at l4 g1
        have HP := Lib.hid l3
        have HN := Lib.hid l4
        obtain ⟨c1, c2⟩ := HCb.out (k + 1) (by have := HM2.out; omega)
        rw [l4] at c1 c2
        obtain ⟨-, -, -, d1', d2', -, -⟩ := M.lcm_two q1 p1
        have hgc : M.gI q p = ((Int.gcd q p : Nat) : Int) := rfl
        rw [hgc] at g1 c1 c2 d1' d2' HN
        have hgne : (((Int.gcd q p : Nat) : Int) == 0) = false := by simp; omega
        have hnn : R.length = n := HRn.out
        have HIr := Lib.hid (HI2.out.below HB.out hb2l)
        have HPer : Hid (Calls Tryz.prog 88 #[.map (some b1), .int .i64 n, .int .i64 v] wr fun e w' => e = .returned (.int .i64 p) ∧ Below wr.heap.size wr w') := by
          have := periodOf R n m1 b1 v wr HRn.out HS.out HC.out HIr.out hv
          rw [HP.out] at this
          exact this
        clear l1 l3 l4 hL hgc hnn
        go_wp2_with fail
        refine HPer.out.mono ?_
        rintro e w3 ⟨rfl, hb⟩
        have HB3 := Lib.hid (HB.out.trans (hb.mono hzr))
        clear hb
        go_wp2_with (go_at_call 95; refine (divisor q p _ (by omega) (by omega) (by omega) (by omega)).mono ?_; rintro e w' ⟨rfl, rfl⟩)
        go_roundw
        case rel => exact ⟨k + 1, _, by omega, by go_num, rfl, HN, HB3.out⟩
        case measure => simp [intOf]; omega
      · obtain rfl : k = m2 := by omega
        have HE2 : Hid (M.cycloRes R = (q, 0)) := by show _ = _; rw [HE.out, ← HM2.out, HK.out]
        go_wp2
        go_ret2
        rw [HE2.out]
        exact ⟨rfl, HB2.out.trans (HB.out.mono hz2)⟩
  · have HC := Lib.hid hk
    obtain ⟨k, hkk⟩ : ∃ k, k = M.crCode R := ⟨_, rfl⟩
    have HE : Hid (M.cycloRes R = (0, k)) := by show _ = _; unfold M.cycloRes; rw [if_neg hk, hkk]
    have HK := Lib.hid hkk
    have hk0 : (k != 0) = true := by rw [hkk]; simpa using hk
    clear h hk hkk hRn
    go_enter Tryz.func37, Tryz.ntmps37
    go_wp2_with fail
    refine (criticalArcs_no _ _ _ R _ HA.out HC.out).mono ?_
    rintro e w1 ⟨rfl, hb⟩
    rw [← HK.out]
    have HB := Lib.hid hb
    clear hb
    go_wp2
    go_ret2
    rw [HE.out]
    exact ⟨rfl, HB.out⟩
end V
end Go.Proofs.YtmhpgnndjagogaaGreat

namespace Go.Proofs.YtmhpgnndjagogaaGreat
namespace M
theorem pot_law {R : List (List Int)} {a b : Int} (hm : (cycMeanRes R).2 = 0) (hb : (potRes R a b).2 ≠ 1) :
    (cmpOf (cycMeanRes R).1.1 (cycMeanRes R).1.2 a b).2 = 0 ∧ ((potRes R a b).2 = 5 → 0 < (cmpOf (cycMeanRes R).1.1 (cycMeanRes R).1.2 a b).1) ∧ ((potRes R a b).2 ≠ 5 → (cmpOf (cycMeanRes R).1.1 (cycMeanRes R).1.2 a b).1 ≤ 0) := by
  obtain ⟨h1, h2, h3, h4⟩ := cyc_t hm
  rw [h4]
  show (cmpOf (bestR (ent R) R.length).1 (bestR (ent R) R.length).2 a b).2 = 0 ∧ _ ∧ _
  unfold potRes at hb ⊢
  by_cases hr : isRat a b = true
  · rw [h1, hr] at hb ⊢
    have hc := pot_cmp h1 h2 hr
    have e : cmpOf (bestR (ent R) R.length).1 (bestR (ent R) R.length).2 a b = (cmpZ ((bestR (ent R) R.length).1 * b) (a * (bestR (ent R) R.length).2), 0) := by
      unfold cmpOf; rw [h3, hr]; rfl
    rw [e]
    refine ⟨rfl, ?_, ?_⟩
    · intro h
      rw [if_pos (by rfl)] at h
      by_cases hp : noPos (shf (ent R) a b) R.length = true
      · rw [if_pos hp] at h
        split at h <;> simp at h
      · have : ¬ ((bestR (ent R) R.length).1 * b ≤ a * (bestR (ent R) R.length).2) := fun q => hp (by rw [hc]; exact decide_eq_true q)
        show 0 < cmpZ _ _
        unfold cmpZ
        split <;> (try split) <;> omega
    · intro h
      rw [if_pos (by rfl)] at h
      by_cases hp : noPos (shf (ent R) a b) R.length = true
      · rw [hc] at hp
        have := of_decide_eq_true hp
        show cmpZ _ _ ≤ 0
        unfold cmpZ
        split <;> (try split) <;> omega
      · rw [if_neg hp] at h; exact absurd rfl h
  · have : (sqB R && isRat a b) = false := by rw [h1]; simpa using hr
    rw [this] at hb
    exact absurd rfl hb
end M
end Go.Proofs.YtmhpgnndjagogaaGreat

namespace Go.Proofs.YtmhpgnndjagogaaGreat
namespace V
set_option maxRecDepth 100000
open Go.RowKit
set_option maxRecDepth 100000 in
set_option maxHeartbeats 4000000 in
theorem sCertifyMean (a : Option Addr) (n cap : Nat) (R : List (List Int)) (w : World) (h : Mat w a n R) :
    Calls Tryz.prog 14 #[.slice a n cap] w (CPost4 (M.certRes R) w) := by
  have HA := Lib.hid h
  have hRn : R.length = n := h.1
  have HB0 : Hid (Below w.heap.size w (w.alloc (.cells #[.int .i64 0, .int .i64 0] 27))) := b_alloc _ _
  by_cases hc : (M.cycMeanRes R).2 = 0
  · obtain ⟨c, L, hs, hcyc, hnear, hp, hq, hcl, hvx, hov⟩ := M.eig_t hc
    have hcm := (M.cyc_t hc).2.2.2
    rw [hRn] at hcyc hnear hp hcl hov hcm
    obtain ⟨hr, n1, n2, hsm⟩ := sq_parts h hs
    have HR := Lib.hid hr
    have HSm := Lib.hid hsm
    have HSs := Lib.hid hs
    obtain ⟨q, hq0⟩ : ∃ q, q = M.bestCyc R := ⟨_, rfl⟩
    have HBq : Hid (M.best2 R = q) := by show _ = _; unfold M.best2; rw [hRn, hcyc, if_pos rfl, hq0]
    obtain ⟨r, hrr⟩ : ∃ r, r = M.bestR (M.ent R) n := ⟨_, rfl⟩
    rw [← hrr] at hnear hp hov hcm
    have HNear := Lib.hid hnear
    have HP := Lib.hid hp
    have HOv := Lib.hid hov
    have HCm := Lib.hid hcm
    obtain ⟨r1, r2⟩ := r
    have HBm : Hid (∀ i j, i < n → j < n → M.Sm 1000001000000 (M.bestF (M.shf (M.ent R) r1 r2) n i j)) := fun i j hi hj => by
      unfold M.bestF
      split
      · exact M.sh_sm HSm.out HNear.out i j hi hj
      · exact .inl rfl
    obtain ⟨p, hpp⟩ : ∃ p, p = M.potRes R r1 r2 := ⟨_, rfl⟩
    have HPp := Lib.hid hpp.symm
    have hE : M.certRes R = if p.2 = 0 then ((r1, r2), M.bestCyc R, p.1, 0) else ((0, 0), [], [], p.2) := by
      unfold M.certRes; rw [if_pos hc, hcm, hpp]
    have HE := Lib.hid hE
    obtain ⟨pl, pc⟩ := p
    rw [← hq0] at HE HOv
    clear hq0 h hc hs hcyc hnear hp hq hvx hov hcm hr hsm hrr hpp hE hRn hcl
    by_cases hpc : pc = 0
    · subst hpc
      go_enter Tryz.func14, Tryz.ntmps14
      go_wp2_with fail
      refine (sCycleMean _ _ _ R _ (HA.out.below HB0.out)).mono ?_
      rintro e w1 ⟨rfl, hb⟩
      rw [HCm.out]
      have HB1 := Lib.hid hb
      clear hb
      obtain ⟨wb, hwb⟩ : ∃ x, x = w1.alloc (rbox r1 r2) := ⟨_, rfl⟩
      have HX : Hid (Boxed w1 wb r1 r2) := by show Boxed _ _ _ _; rw [hwb]; exact boxed _ _ _
      have HBx := Lib.hid (HB1.out.trans (HX.out.below.mono HB1.out.size))
      have HBy := Lib.hid (HB0.out.trans (HBx.out.mono HB0.out.size))
      go_wp2_with fail
      change Calls _ _ _ (w1.alloc (rbox r1 r2)) _
      rw [← hwb]
      clear hwb
      refine (sPotentialOf _ _ _ R r1 r2 _ (HA.out.below HBy.out)).mono ?_
      rintro e w2 ⟨b2, m2, c2, rfl, ho, hb⟩
      rw [HPp.out] at ho ⊢
      have HO2 := Lib.hid ho
      have HB2 := Lib.hid hb
      have HBz := Lib.hid (HBy.out.trans (hb.mono HBy.out.size))
      obtain ⟨p0, p1⟩ := HX.out.cells hb
      clear ho hb
      go_wp2_with fail
      refine (sBest _ _ _ R _ (HA.out.below HBz.out) HSs.out).mono ?_
      rintro e w4 ⟨b4, n4, c4, rfl, ho, hb⟩
      rw [HBq.out] at ho
      have HO4 := Lib.hid ho
      have HB4 := Lib.hid hb
      have HB3 := Lib.hid (Below.refl w2.heap.size w2)
      have hb8 := HBx.out.trans ((HB2.out.trans (hb.mono HB2.out.size)).mono HBx.out.size)
      have hz8 := hb8.size
      simp at hz8
      obtain ⟨hcc, hff⟩ := bcell hb8
      have z1 : w.heap.size < w4.heap.size := by omega
      obtain ⟨p2, p3⟩ := HX.out.cells (HB2.out.trans (hb.mono HB2.out.size))
      clear ho hb hb8 p0 p1
      go_wp2
      all_goals
        have hlt2 : w.heap.size < w2.heap.size := by have := HBx.out.size; have := HB2.out.size; simp at *; omega
        have hHE : M.certRes R = ((r1, r2), q, pl, 0) := HE.out
        refine bodyPost_ret (v := .tuple #[.agg #[.int .i64 r1, .int .i64 r2], .slice b4 n4 c4, .slice b2 m2 c2, .int .i64 0]) (by simp [results, Tryz.results14, go_sem, z1, hcc]) rfl ?_
        rw [hHE]
        refine ⟨(w2.setCell ⟨w.heap.size, 0, none⟩ (.int .i64 r1)).setCell ⟨w.heap.size, 1, none⟩ (.int .i64 r2), b4, n4, c4, b2, m2, c2, rfl, ?_, ?_, ?_, ?_⟩
        · refine (HO2.out.keep fun k k1 _ => ?_).mono HBy.out.size
          have k2 : w.heap.size ≠ k := by have := HBx.out.size; simp at this; omega
          exact (Below.heap_setCell _ _ _ k k2.symm).trans (Below.heap_setCell _ _ _ k k2.symm)
        · exact (HBz.out.setCell (p := ⟨w.heap.size, 0, none⟩) (Nat.le_refl _) _).setCell (p := ⟨w.heap.size, 1, none⟩) (Nat.le_refl _) _
        · refine (HO4.out.keep fun k k1 _ => ?_).mono ?_
          · have k2 : w.heap.size ≠ k := by have := HB3.out.size; omega
            exact (Below.heap_setCell _ _ _ k k2.symm).trans (Below.heap_setCell _ _ _ k k2.symm)
          · simp [World.setCell]
        · have e := below_set2 (below_set2 HB4.out ⟨w.heap.size, 0, none⟩ hlt2 (.int .i64 r1)) ⟨w.heap.size, 1, none⟩ hlt2 (.int .i64 r2)
          simpa [World.setCell] using e
    · have HEE : Hid (M.certRes R = ((0, 0), [], [], pc)) := HE.out.trans (if_neg hpc)
      have hpb : (pc != 0) = true := by simpa using hpc
      go_enter Tryz.func14, Tryz.ntmps14
      go_wp2_with fail
      refine (sCycleMean _ _ _ R _ (HA.out.below HB0.out)).mono ?_
      rintro e w1 ⟨rfl, hb⟩
      rw [HCm.out]
      have HB1 := Lib.hid hb
      clear hb
      obtain ⟨wb, hwb⟩ : ∃ x, x = w1.alloc (rbox r1 r2) := ⟨_, rfl⟩
      have HX : Hid (Boxed w1 wb r1 r2) := by show Boxed _ _ _ _; rw [hwb]; exact boxed _ _ _
      have HBx := Lib.hid (HB1.out.trans (HX.out.below.mono HB1.out.size))
      have HBy := Lib.hid (HB0.out.trans (HBx.out.mono HB0.out.size))
      go_wp2_with fail
      change Calls _ _ _ (w1.alloc (rbox r1 r2)) _
      rw [← hwb]
      clear hwb
      refine (sPotentialOf _ _ _ R r1 r2 _ (HA.out.below HBy.out)).mono ?_
      rintro e w2 ⟨b2, m2, c2, rfl, ho, hb⟩
      rw [HPp.out] at ho ⊢
      have hb8 := HBx.out.trans (hb.mono HBx.out.size)
      have hz := hb8.size
      simp at hz
      obtain ⟨hcc, hff⟩ := bcell hb8
      have z1 : w.heap.size < w2.heap.size := by omega
      clear ho hb
      go_wp2
      exact bodyPost_ret (v := .tuple #[.agg #[.int .i64 0, .int .i64 0], .slice none 0 0, .slice none 0 0, .int .i64 pc]) (by simp [results, Tryz.results14, go_sem, z1, hcc]) rfl (CPost4.nil HEE.out (bel1s hb8))
  · have HE : Hid (M.certRes R = ((0, 0), [], [], (M.cycMeanRes R).2)) := by show _ = _; unfold M.certRes; rw [if_neg hc]
    obtain ⟨r, hr⟩ : ∃ r, r = M.cycMeanRes R := ⟨_, rfl⟩
    rw [← hr] at hc HE
    have HR := Lib.hid hr.symm
    obtain ⟨⟨r1, r2⟩, r3⟩ := r
    have hr3 : (r3 != 0) = true := by simpa using hc
    clear h hc hr hRn
    go_enter Tryz.func14, Tryz.ntmps14
    go_wp2_with fail
    refine (sCycleMean _ _ _ R _ (HA.out.below HB0.out)).mono ?_
    rintro e w1 ⟨rfl, hb⟩
    rw [HR.out]
    have hz := hb.size
    simp at hz
    obtain ⟨hcc, hff⟩ := bcell hb
    have z1 : w.heap.size < w1.heap.size := by omega
    go_wp2
    exact bodyPost_ret (v := .tuple #[.agg #[.int .i64 0, .int .i64 0], .slice none 0 0, .slice none 0 0, .int .i64 r3]) (by simp [results, Tryz.results14, go_sem, z1, hcc]) rfl (CPost4.nil HE.out ((bel1s hb).alloc (bel1s hb).size _))
theorem M.certRes_len (R : List (List Int)) : (M.certRes R).2.1.length ≤ 10 ∧ (M.certRes R).2.2.1.length ≤ 10 := by
  unfold M.certRes
  split
  · next h =>
    split
    · exact ⟨by obtain ⟨h1, h2, -⟩ := M.cyc_t h; exact (M.best_cyc h1 h2).2.2.2, M.potRes_len R _ _⟩
    · exact ⟨by simp, by simp⟩
  · exact ⟨by simp, by simp⟩
end V
end Go.Proofs.YtmhpgnndjagogaaGreat

namespace Go.Proofs.YtmhpgnndjagogaaGreat.V
open Go.RowKit
theorem thn {a b c : World} (h1 : Below a.heap.size a b) (h2 : Below b.heap.size b c) : Below a.heap.size a c := h1.trans (h2.mono h1.size)
end Go.Proofs.YtmhpgnndjagogaaGreat.V

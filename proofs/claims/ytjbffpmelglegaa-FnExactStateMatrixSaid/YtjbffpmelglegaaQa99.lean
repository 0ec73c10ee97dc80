/- Texts laid together: Smc. -/
import Derived.Test.YtjbffpmelglegaaQa98
import Derived.StillTailTactics
set_option linter.unusedSimpArgs false
set_option linter.unusedVariables false
set_option linter.unusedSectionVars false
namespace Go.Proofs.Ytjbffpmelglegaa.V
set_option maxRecDepth 100000
open Go.RowKit
theorem wr2 {a c : Int} (h : a = c) (h1 : -1000000 ≤ c) (h2 : c ≤ 1000000) : wrap64 a = c ∧ IntKind.i64.wrap a = c := by
  subst h
  exact ⟨IntWalk.wrap64_in _ ⟨by omega, by omega⟩, IntWalk.i64_in _ (by omega)⟩
set_option maxRecDepth 100000 in
set_option maxHeartbeats 4000000 in
theorem sStateMatrix (x : Int) (a : Option Addr) (n cap : Nat) (l : List M.Pc) (w : World) (h : Pls w a n l) :
    Calls Try.prog 39 #[.agg #[.int .i64 x, .slice a n cap]] w (MRes (M.smRes x l) w) := by
  have HI := Lib.hid h
  have HLn : Hid (l.length = n) := h.1
  have hb0 := b_alloc w (.cells #[.int .i64 x, .slice a n cap] 41)
  have hG := gBox_new w x a n cap 41
  obtain ⟨wb, hwb⟩ : ∃ z, z = w.alloc (.cells #[.int .i64 x, .slice a n cap] 41) := ⟨_, rfl⟩
  rw [← hwb] at hb0 hG
  have HWb := Lib.hid hwb.symm
  have HG := Lib.hid hG
  have HB0 := Lib.hid hb0
  obtain ⟨cd, hcd⟩ : ∃ c, c = M.lvCode x l := ⟨_, rfl⟩
  have HC : Hid (Calls Try.prog 84 #[.agg #[.int .i64 x, .slice a n cap]] wb fun e w' => e = .returned (.int .i64 cd) ∧ Below wb.heap.size wb w') := by rw [hcd]; exact sLive x a n cap l wb (h.below hb0)
  have HCd := Lib.hid hcd
  obtain ⟨g0, g1⟩ := hG
  rw [hwb] at g0 g1
  clear h hb0 hwb hcd
  by_cases h0 : cd = 0
  · subst h0
    obtain ⟨N, hxN, hgr, hlive, hnp, n1, n10⟩ := lv_live HCd.out.symm
    subst hxN
    have HGr := Lib.hid hgr
    have HLive := Lib.hid hlive
    have hn30 : n ≤ 30 := by rw [← HLn.out]; exact (gr_N hgr).2.2
    have HKb : Hid (∀ k, k ≤ n → 1 ≤ M.tokK l k ∧ M.tokK l k ≤ 5) := fun k hk => M.tokK_bd l (tok5 hgr) k (by rw [HLn.out]; exact hk)
    have hk0 : M.tokK l 0 = 1 := rfl
    clear hgr hlive hnp
    go_enter Try.func39, Try.ntmps39
    go_wp2_with fail
    rw [HWb.out]
    refine HC.out.mono ?_
    rintro e w2 ⟨rfl, hb⟩
    have HBw := Lib.hid (HB0.out.trans (hb.mono HB0.out.size))
    have HBb := Lib.hid hb
    have HG2 := Lib.hid (HG.out.below hb)
    clear g0 g1 hb
    go_wp2
    go_loopw [5, 6] (fun bv kv wr => ∃ (k : Nat), k ≤ n ∧ kv = .int .i64 k ∧ bv = .int .i64 (M.tokK l k) ∧ wr = w2) (fun _ kv _ => n - (intOf kv).toNat)
    case atStart => exact ⟨0, Nat.zero_le _, rfl, by rw [hk0]; rfl, rfl⟩
    case round =>
      obtain ⟨k, hk, rfl, rfl, rfl⟩ := hrel
      obtain ⟨g0, g1⟩ := HG2.out
      by_cases hkl : k < n
      · have hki : (k : Int) < (n : Int) := by omega
        obtain ⟨pb, off, p0, p1, p2, p3, rfl, -, hp, c0, c1, c2', c3⟩ := (HI.out.below HBw.out).at k hkl
        obtain ⟨i, j0, hi, hj, rfl, rfl, t2, t2', t3, t3'⟩ := gr_at HGr.out (by rw [HLn.out]; exact hkl) hp
        obtain ⟨tk, rfl, htk⟩ : ∃ t : Nat, p3 = (t : Int) ∧ t ≤ 5 := ⟨p3.toNat, by omega, by omega⟩
        have HNx := Lib.hid (M.tokK_next hp)
        obtain ⟨κ, hκ⟩ : ∃ κ, κ = M.tokK l k := ⟨_, rfl⟩
        rw [← hκ] at HNx ⊢
        clear hp hκ
        go_wp2
        go_roundw
        case rel => exact ⟨k + 1, by omega, by go_num, by rw [HNx.out]; congr 1; split <;> omega, by first | rfl | trivial⟩
        case measure => simp [intOf]; omega
      · obtain rfl : k = n := by omega
        have hki : ¬ (k : Int) < (k : Int) := by omega
        obtain ⟨K1, K5⟩ := HKb.out k (Nat.le_refl _)
        obtain ⟨K, hK⟩ : ∃ K, K = M.tokK l k := ⟨_, rfl⟩
        rw [← hK] at K1 K5 ⊢
        obtain ⟨s, hs⟩ : ∃ s, s = K * N := ⟨_, rfl⟩
        have hs50 : s ≤ 50 := by rw [hs]; have : K * N ≤ 5 * 10 := Nat.mul_le_mul K5 n10; omega
        have hsz : (K : Int) * (N : Int) = (s : Int) := by rw [hs]; simp
        have HS := Lib.hid hs
        have HKe : Hid (M.tokK l l.length = K) := by show _ = _; rw [HLn.out]; exact hK.symm
        have hsN : N ≤ s := by rw [hs]; have : 1 * N ≤ K * N := Nat.mul_le_mul_right _ K1; omega
        have hs1 : 1 ≤ s := by omega
        have HW := Lib.hid (wr2 hsz (by omega) (by omega))
        clear hs hsz hK
        obtain ⟨w2, rfl⟩ : ∃ z, z = wr := ⟨_, rfl⟩
        by_cases h10 : s ≤ 10
        · have hgt : ¬ (10 : Int) < (s : Int) := by omega
          have HR : Hid (M.smRes (N : Int) l = (M.stM l N K, 0)) := by
            show _ = _
            unfold M.smRes
            rw [if_pos HCd.out.symm, HKe.out, show (N : Int).toNat = N by omega, ← HS.out, if_pos h10]
          obtain ⟨hw, hw'⟩ := HW.out
          go_wp2_with fail
          refine (sBottom s s w2 (by clear hw hw'; omega) (by clear hw hw'; omega)).mono ?_
          rintro e wf ⟨bf, cf, rfl, ho, hb⟩
          clear hw hw' hgt hki
          obtain ⟨B, hB⟩ : ∃ B, B = w2.heap.size := ⟨_, rfl⟩
          rw [← hB] at ho hb
          have HOf : Hid (OwnM wf B (.slice bf s cf) (M.mk s s (M.smM (M.cloD l N) N 0 0 0))) := by
            show OwnM _ _ _ _
            rw [M.mk_congr fun r hr c hc => M.smM_zero (M.cloD l N) N r c]; exact ho
          obtain ⟨G, q0, L0, cq0, x0, rfl, hBG, -, -, -, hcG, -, -, -⟩ := HOf.out.at 0 0 (by omega) (by rw [M.mk_rowlen _ _ _ _ (by omega)]; omega)
          have HRow : Hid (∀ i, i < s → ∃ q c, wf.cell? ⟨G, i, none⟩ = some (.slice (some ⟨q, 0, none⟩) s c) ∧ q < wf.heap.size) := fun i hi => by
            obtain ⟨G', q', L', c', x', e1, -, -, e2, -, e3, e4, -, -⟩ := HOf.out.at i 0 hi (by rw [M.mk_rowlen _ _ _ _ hi]; omega)
            injection e1 with e1
            injection e1 with e1
            subst e1
            rw [M.mk_rowlen _ _ _ _ hi] at e2
            subst e2
            exact ⟨q', c', e3, cell_lt e4⟩
          have hwo := HBb.out.size
          have HBf : Hid (Below wb.heap.size wb wf) := HBb.out.trans ((by rw [hB] at hb; exact hb : Below w2.heap.size w2 wf).mono hwo)
          have hBb : wb.heap.size ≤ B := by rw [hB]; exact hwo
          have hGf : G < wf.heap.size := cell_lt hcG
          clear ho hb hcG g0 g1 hB
          go_wp2
          go_loopw [8] (fun kv wr => ∃ b : Nat, b ≤ K ∧ kv = .int .i64 ((b : Int) + 1) ∧ Hid (OwnM wr B (.slice (some ⟨G, 0, none⟩) s cf) (M.mk s s (M.smM (M.cloD l N) N b 0 0))) ∧ Hid (Below wb.heap.size wb wr) ∧ Hid (wr.heap[G]? = wf.heap[G]? ∧ wf.heap.size ≤ wr.heap.size)) (fun kv _ => K + 1 - (intOf kv).toNat)
          case atStart => exact ⟨0, Nat.zero_le _, rfl, HOf, HBf, rfl, Nat.le_refl _⟩
          case round =>
            clear HOf
            obtain ⟨b, hbK, rfl, HO, HB, HGk⟩ := hrel
            obtain ⟨wq, rfl⟩ : ∃ x, x = wr := ⟨_, rfl⟩
            obtain ⟨μ, hμ⟩ : ∃ μ : Int, μ = (b : Int) + 1 := ⟨_, rfl⟩
            rw [← hμ]
            have HMu := Lib.hid hμ
            obtain ⟨g0, g1⟩ := HG.out.below HB.out
            by_cases hlt : b < K
            · have hbi : μ ≤ (K : Int) := by omega
              have HW1 := Lib.hid (wr2 (a := μ - 1) (c := (b : Int)) (by omega) (by omega) (by omega))
              have HW2 := Lib.hid (wr2 (a := μ + 1) (c := ((b + 1 : Nat) : Int) + 1) (by omega) (by omega) (by omega))
              obtain ⟨μ', hμ'⟩ : ∃ μ' : Int, μ' = ((b + 1 : Nat) : Int) + 1 := ⟨_, rfl⟩
              rw [← hμ'] at HW2
              have HMu' := Lib.hid hμ'
              obtain ⟨τ, hτ⟩ : ∃ τ, τ = b * N := ⟨_, rfl⟩
              have hτN : τ + N ≤ s := by
                have h1 : (b + 1) * N ≤ K * N := Nat.mul_le_mul_right _ hlt
                rw [← HS.out, Nat.succ_mul, ← hτ] at h1
                exact h1
              have hτz : (b : Int) * (N : Int) = (τ : Int) := by rw [hτ]; simp
              have HTau := Lib.hid hτ
              have HW3 := Lib.hid (wr2 hτz (by omega) (by omega))
              have hυz : μ * (N : Int) = ((τ + N : Nat) : Int) := by rw [hμ, Int.add_mul, hτz, Int.one_mul]; omega
              obtain ⟨υ, hυ⟩ : ∃ υ, υ = τ + N := ⟨_, rfl⟩
              rw [← hυ] at hυz
              have HW4 := Lib.hid (wr2 hυz (by omega) (by omega))
              have HUp := Lib.hid hυ
              have HLast : Hid (¬ μ < (K : Int) → s = (b + 1) * N) := fun hq => by rw [HS.out, show K = b + 1 by omega]
              have HNl : Hid (μ < (K : Int) → υ + N ≤ s) := fun hq => by
                have h1 : (b + 1 + 1) * N ≤ K * N := Nat.mul_le_mul_right _ (by omega)
                rw [← HS.out, Nat.succ_mul, Nat.succ_mul, ← hτ] at h1
                omega
              clear hμ hμ' hτ hτz hυz hυ
              go_wp2_with fail
              refine (sClosed N a k cap l μ wq (HI.out.below (HB0.out.trans (HB.out.mono HB0.out.size))) HGr.out HLive.out).mono ?_
              rintro e wc ⟨bc, cc, rfl, ho, hb⟩
              rw [M.cloD_eq l N b μ HMu.out] at ho
              have HOc := Lib.hid ho
              have HOa := Lib.hid (HO.out.below hb)
              have HBa := Lib.hid (HB.out.trans (hb.mono HB.out.size))
              have hGq : G < wq.heap.size := by have := HGk.out.2; omega
              have HGa : Hid (wc.heap[G]? = wf.heap[G]? ∧ wf.heap.size ≤ wq.heap.size ∧ wq.heap.size ≤ wc.heap.size) := ⟨(hb.block G hGq).trans HGk.out.1, HGk.out.2, hb.size⟩
              clear ho hb g0 g1 HO HB
              go_wp2
              go_loopw [10] (fun kv wr => ∃ i : Nat, i ≤ N ∧ kv = .int .i64 i ∧ Hid (OwnM wr B (.slice (some ⟨G, 0, none⟩) s cf) (M.mk s s (M.smM (M.cloD l N) N b i 0))) ∧ Hid (Below wb.heap.size wb wr) ∧ Hid (wr.heap[G]? = wf.heap[G]? ∧ wc.heap.size ≤ wr.heap.size) ∧ Hid (∀ x, wq.heap.size ≤ x → x < wc.heap.size → wr.heap[x]? = wc.heap[x]?)) (fun kv _ => N - (intOf kv).toNat)
              case atStart => exact ⟨0, Nat.zero_le _, rfl, HOa, HBa, ⟨HGa.out.1, Nat.le_refl _⟩, fun _ _ _ => rfl⟩
              case round =>
                clear HOa
                obtain ⟨i, hiN, rfl, HOi, HBi, HGi, HSi⟩ := hrel
                obtain ⟨wi, rfl⟩ : ∃ x, x = wr := ⟨_, rfl⟩
                obtain ⟨g0, g1⟩ := HG.out.below HBi.out
                by_cases hil : i < N
                · have hii : (i : Int) < (N : Int) := by omega
                  have his : i < s := by omega
                  have hisi : (i : Int) < (s : Int) := by omega
                  go_wp2
                  go_loopw [11] (fun kv wr => ∃ j : Nat, j ≤ N ∧ kv = .int .i64 j ∧ Hid (OwnM wr B (.slice (some ⟨G, 0, none⟩) s cf) (M.mk s s (M.smM (M.cloD l N) N b i j))) ∧ Hid (Below wb.heap.size wb wr) ∧ Hid (wr.heap[G]? = wf.heap[G]? ∧ wc.heap.size ≤ wr.heap.size) ∧ Hid (∀ x, wq.heap.size ≤ x → x < wc.heap.size → wr.heap[x]? = wc.heap[x]?)) (fun kv _ => N - (intOf kv).toNat)
                  case atStart => exact ⟨0, Nat.zero_le _, rfl, HOi, HBi, HGi, HSi⟩
                  case round =>
                    clear HOi HBi HGi HSi g0 g1
                    obtain ⟨j, hjN, rfl, HOj, HBj, HGj, HSj⟩ := hrel
                    obtain ⟨wj, rfl⟩ : ∃ x, x = wr := ⟨_, rfl⟩
                    obtain ⟨g0, g1⟩ := HG.out.below HBj.out
                    by_cases hjl : j < N
                    · have hji : (j : Int) < (N : Int) := by omega
                      obtain ⟨σ, hσ⟩ : ∃ σ, σ = τ + j := ⟨_, rfl⟩
                      have hσs : σ < s := by omega
                      have hσi : (σ : Int) < (s : Int) := by omega
                      have HW7 := Lib.hid (wr2 (a := (j : Int) + 1) (c := (j : Int) + 1) rfl (by omega) (by omega))
                      have HW5 := Lib.hid (wr2 (a := (τ : Int) + (j : Int)) (c := (σ : Int)) (by omega) (by omega) (by omega))
                      obtain ⟨ab, ao, rb, ro, rc, y, rfl, hy, k1, k2⟩ := (HOc.out.keep HSj.out).mat.rect_ent (rect_mk N N _) i j hil hjl
                      rw [M.ent_mk _ _ _ _ _ hil hjl] at hy
                      obtain ⟨q, cq, hcq, hqf⟩ := HRow.out i his
                      have hcq' : wj.cell? ⟨G, i, none⟩ = some (.slice (some ⟨q, 0, none⟩) s cq) := by rw [← hcq]; exact World.cell?_of_block HGj.out.1
                      obtain ⟨G', q', L', c', x', e1, -, hqB, e2, -, hc1, hc2, hc3, hput⟩ := HOj.out.at i σ his (by rw [M.mk_rowlen _ _ _ _ his]; exact hσs)
                      injection e1 with e1
                      injection e1 with e1
                      subst e1
                      rw [hcq'] at hc1
                      injection hc1 with hc1
                      injection hc1 with hc1 hd2 hd3
                      injection hc1 with hc1
                      injection hc1 with hc1
                      subst hc1
                      have HPut : Hid (OwnM (wj.setCell ⟨q, σ, none⟩ (.int .i64 y)) B (.slice (some ⟨G, 0, none⟩) s cf) (M.mk s s (M.smM (M.cloD l N) N b i (j + 1)))) := by
                        have := hput y
                        rw [M.mk_set _ _ _ _ _ _ his] at this
                        show OwnM _ _ _ _
                        rw [M.mk_congr (fun r hr c hc => (M.smM_put (M.cloD l N) N b i j r c hil hjl).symm), ← HTau.out, ← hσ, ← hy]
                        exact this
                      have hqG : q ≠ G := HOj.out.ne his hcq'
                      have HBp : Hid (Below wb.heap.size wb (wj.drew.setCell ⟨q, σ, none⟩ (.int .i64 y))) := HBj.out.drew.setCell (by show wb.heap.size ≤ q; omega) _
                      have HOth : Hid (∀ x, x ≠ q → (wj.drew.setCell ⟨q, σ, none⟩ (.int .i64 y)).heap[x]? = wj.heap[x]?) := fun x hx => Below.heap_setCell _ _ _ _ hx
                      have HG4 : Hid ((wj.drew.setCell ⟨q, σ, none⟩ (.int .i64 y)).heap[G]? = wf.heap[G]? ∧ wc.heap.size ≤ (wj.drew.setCell ⟨q, σ, none⟩ (.int .i64 y)).heap.size) := ⟨(HOth.out G (fun e => hqG e.symm)).trans HGj.out.1, by rw [World.size_setCell]; exact HGj.out.2⟩
                      have HS4 : Hid (∀ x, wq.heap.size ≤ x → x < wc.heap.size → (wj.drew.setCell ⟨q, σ, none⟩ (.int .i64 y)).heap[x]? = wc.heap[x]?) := fun x h1 h2 => (HOth.out x (fun e => by have e2 := HGa.out.2.1; omega)).trans (HSj.out x h1 h2)
                      clear hput hσ hqG hy hcq hqf hqB e2 hd2 hd3 HOth
                      obtain ⟨hw1, hw1'⟩ := HW1.out
                      obtain ⟨hw3, hw3'⟩ := HW3.out
                      obtain ⟨hw5, hw5'⟩ := HW5.out
                      obtain ⟨hw7, hw7'⟩ := HW7.out
                      go_wp2
                      go_still_tail 19, (by kernel_rfl)
                      change wpList _ _ _ _ _ wj.drew
                      go_wp2
                      go_roundw
                      case rel => exact ⟨j + 1, by clear hw7 hw7' hw1 hw1' hw3 hw3' hw5 hw5'; omega, by go_num, HPut.out.keep (fun _ _ _ => rfl), HBp, HG4, HS4⟩
                      case measure => (clear hw7 hw7' hw1 hw1' hw3 hw3' hw5 hw5'; simp [intOf]; omega)
                    · obtain rfl : j = N := by omega
                      have hji : ¬ (j : Int) < (j : Int) := by omega
                      by_cases hmu : μ < (K : Int)
                      · obtain ⟨σ, hσ⟩ : ∃ σ, σ = τ + i := ⟨_, rfl⟩
                        obtain ⟨ρ, hρ⟩ : ∃ ρ, ρ = υ + i := ⟨_, rfl⟩
                        have hNl := HNl.out hmu
                        have hσs : σ < s := by omega
                        have hσi : (σ : Int) < (s : Int) := by omega
                        have hρs : ρ < s := by omega
                        have hρi : (ρ : Int) < (s : Int) := by omega
                        have HW7 := Lib.hid (wr2 (a := (i : Int) + 1) (c := (i : Int) + 1) rfl (by omega) (by omega))
                        have HW5 := Lib.hid (wr2 (a := (τ : Int) + (i : Int)) (c := (σ : Int)) (by omega) (by omega) (by omega))
                        have HW6 := Lib.hid (wr2 (a := (υ : Int) + (i : Int)) (c := (ρ : Int)) (by omega) (by omega) (by omega))
                        obtain ⟨q, cq, hcq, hqf⟩ := HRow.out ρ hρs
                        have hcq' : wj.cell? ⟨G, ρ, none⟩ = some (.slice (some ⟨q, 0, none⟩) s cq) := by rw [← hcq]; exact World.cell?_of_block HGj.out.1
                        obtain ⟨G', q', L', c', x', e1, -, hqB, e2, -, hc1, hc2, hc3, hput⟩ := HOj.out.at ρ σ hρs (by rw [M.mk_rowlen _ _ _ _ hρs]; exact hσs)
                        injection e1 with e1
                        injection e1 with e1
                        subst e1
                        rw [hcq'] at hc1
                        injection hc1 with hc1
                        injection hc1 with hc1 hd2 hd3
                        injection hc1 with hc1
                        injection hc1 with hc1
                        subst hc1
                        have HPut : Hid (OwnM (wj.setCell ⟨q, σ, none⟩ (.int .i64 0)) B (.slice (some ⟨G, 0, none⟩) s cf) (M.mk s s (M.smM (M.cloD l j) j b (i + 1) 0))) := by
                          have := hput 0
                          rw [M.mk_set _ _ _ _ _ _ hρs] at this
                          show OwnM _ _ _ _
                          rw [M.mk_congr (fun r hr c hc => (M.smM_diag (M.cloD l j) j b i r c hil).symm), Nat.succ_mul, ← HTau.out, ← HUp.out, ← hσ, ← hρ]
                          exact this
                        have hqG : q ≠ G := HOj.out.ne hρs hcq'
                        have HBp : Hid (Below wb.heap.size wb (wj.drew.setCell ⟨q, σ, none⟩ (.int .i64 0))) := HBj.out.drew.setCell (by show wb.heap.size ≤ q; omega) _
                        have HOth : Hid (∀ x, x ≠ q → (wj.drew.setCell ⟨q, σ, none⟩ (.int .i64 0)).heap[x]? = wj.heap[x]?) := fun x hx => Below.heap_setCell _ _ _ _ hx
                        have HG4 : Hid ((wj.drew.setCell ⟨q, σ, none⟩ (.int .i64 0)).heap[G]? = wf.heap[G]? ∧ wc.heap.size ≤ (wj.drew.setCell ⟨q, σ, none⟩ (.int .i64 0)).heap.size) := ⟨(HOth.out G (fun e => hqG e.symm)).trans HGj.out.1, by rw [World.size_setCell]; exact HGj.out.2⟩
                        have HS4 : Hid (∀ x, wq.heap.size ≤ x → x < wc.heap.size → (wj.drew.setCell ⟨q, σ, none⟩ (.int .i64 0)).heap[x]? = wc.heap[x]?) := fun x h1 h2 => (HOth.out x (fun e => by have e2 := HGa.out.2.1; omega)).trans (HSj.out x h1 h2)
                        clear hput hσ hρ hqG hcq hqf hqB e2 hd2 hd3 HOth hNl
                        obtain ⟨hw1, hw1'⟩ := HW1.out
                        obtain ⟨hw3, hw3'⟩ := HW3.out
                        obtain ⟨hw4, hw4'⟩ := HW4.out
                        obtain ⟨hw5, hw5'⟩ := HW5.out
                        obtain ⟨hw6, hw6'⟩ := HW6.out
                        obtain ⟨hw7, hw7'⟩ := HW7.out
                        go_wp2
                        go_still_tail 17, (by kernel_rfl)
                        change wpList _ _ _ _ _ wj.drew
                        go_wp2
                        go_roundw
                        case rel => exact ⟨i + 1, by clear hw7 hw7' hw1 hw1' hw3 hw3' hw5 hw5' hw4 hw4' hw6 hw6'; omega, by go_num, HPut.out.keep (fun _ _ _ => rfl), HBp, HG4, HS4⟩
                        case measure => (clear hw7 hw7' hw1 hw1' hw3 hw3' hw5 hw5' hw4 hw4' hw6 hw6'; simp [intOf]; omega)
                      · have HL2 : Hid (OwnM wj B (.slice (some ⟨G, 0, none⟩) s cf) (M.mk s s (M.smM (M.cloD l j) j b (i + 1) 0))) := by
                          show OwnM _ _ _ _
                          rw [M.mk_congr (fun r hr c hc => (M.smM_last (M.cloD l j) j b i r c (by have e := HLast.out (by omega); omega) hil).symm)]
                          exact HOj.out
                        go_wp2
                        go_roundw
                        case rel => exact ⟨i + 1, by omega, by go_num, HL2, HBj, HGj, HSj⟩
                        case measure => simp [intOf]; omega
                · obtain rfl : i = N := by omega
                  have hii : ¬ (i : Int) < (i : Int) := by omega
                  have HL3 : Hid (OwnM wi B (.slice (some ⟨G, 0, none⟩) s cf) (M.mk s s (M.smM (M.cloD l i) i (b + 1) 0 0))) := by
                    show OwnM _ _ _ _
                    rw [M.mk_congr (fun r hr c hc => (M.smM_next (M.cloD l i) i b r c).symm)]
                    exact HOi.out
                  obtain ⟨hw2, hw2'⟩ := HW2.out
                  go_wp2
                  go_roundw
                  case rel => exact ⟨b + 1, by clear hw2 hw2'; omega, congrArg (Value.int .i64) HMu'.out, HL3, HBi, HGi.out.1, by have h1 := HGi.out.2; have h2 := HGa.out.2; clear hw2 hw2'; omega⟩
                  case measure => (have h1 := HMu.out; have h2 := HMu'.out; clear hw2 hw2'; simp [intOf]; omega)
            · obtain rfl : b = K := by omega
              have hbi : ¬ μ ≤ (b : Int) := by omega
              have HOz : Hid (OwnM wq w.heap.size (.slice (some ⟨G, 0, none⟩) s cf) (M.stM l N b)) := by
                show OwnM _ _ _ _
                have := HO.out
                rw [M.mk_congr (fun r hr c hc => M.smM_end (M.cloD l N) N b r c (by rw [← HS.out]; exact hc))] at this
                unfold M.stM
                rw [← HS.out]
                exact this.mono (Nat.le_trans HB0.out.size hBb)
              have HBz := Lib.hid (HB0.out.trans (HB.out.mono HB0.out.size))
              clear hμ
              go_wp2
              go_ret2
              rw [HR.out]
              exact ⟨_, _, _, rfl, HOz.out, HBz.out⟩
        · have hgt : (10 : Int) < (s : Int) := by omega
          have HR : Hid (M.smRes (N : Int) l = ([], 3)) := by
            show _ = _
            unfold M.smRes
            rw [if_pos HCd.out.symm, HKe.out, show (N : Int).toNat = N by omega, ← HS.out, if_neg h10]
          obtain ⟨hw, hw'⟩ := HW.out
          go_wp2
          go_ret2
          exact MRes.nil HR.out HBw.out
  · have h0' : (cd != 0) = true := by simpa using h0
    have HR : Hid (M.smRes x l = ([], cd)) := by show _ = _; unfold M.smRes; rw [← HCd.out, if_neg h0]
    clear h0
    go_enter Try.func39, Try.ntmps39
    go_wp2_with fail
    rw [HWb.out]
    refine HC.out.mono ?_
    rintro e w2 ⟨rfl, hb⟩
    have HBw := Lib.hid (HB0.out.trans (hb.mono HB0.out.size))
    clear g0 g1 hb
    go_wp2
    go_ret2
    exact MRes.nil HR.out HBw.out
end Go.Proofs.Ytjbffpmelglegaa.V

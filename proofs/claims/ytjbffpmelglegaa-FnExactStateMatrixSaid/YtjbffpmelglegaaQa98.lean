/- Texts laid together: Smb. -/
import Derived.Test.YtjbffpmelglegaaQa97
import Derived.Test.YtjbffpmelglegaaQa52
import Derived.Deep.RegionLaw
set_option linter.unusedSimpArgs false
set_option linter.unusedVariables false
set_option linter.unusedSectionVars false
namespace Go.Proofs.Ytjbffpmelglegaa
namespace M
theorem tokK_next {l : List Pc} {k : Nat} {a b c : Int} {t : Nat} (h : l.getD k pz = (a, b, c, (t : Int))) : tokK l (k + 1) = max (tokK l k) t := by
  show max (tokK l k) (l.getD k pz).2.2.2.toNat = _
  rw [h]
  rfl
theorem cloD_eq (l : List Pc) (N b : Nat) (μ : Int) (h : μ = (b : Int) + 1) : closM l N μ = mk N N (cloD l N (b + 1)) := by
  unfold closM cloD
  rw [h, show (((b + 1 : Nat) : Int)) = (b : Int) + 1 by omega]
end M
namespace V
set_option maxRecDepth 100000
open Go.RowKit
theorem tok5 {N : Nat} {l : List M.Pc} (hg : M.isGr (N : Int) l = true) : ∀ p ∈ l, p.2.2.2 ≤ 5 := fun p hp => (M.gr_plOk hg p hp).2.2.2
set_option maxRecDepth 100000 in
set_option maxHeartbeats 4000000 in
theorem stateMatrix (x : Int) (a : Option Addr) (n cap : Nat) (l : List M.Pc) (w : World) (h : Pls w a n l) :
    Calls Try.prog 40 #[.agg #[.int .i64 x, .slice a n cap]] w (MRes (M.smRes x l) w) := by
  have HI := Lib.hid h
  have HLn : Hid (l.length = n) := h.1
  have hb0 := b_alloc w (.cells #[.int .i64 x, .slice a n cap] 41)
  have hG := gBox_new w x a n cap 41
  obtain ⟨wb, hwb⟩ : ∃ z, z = w.alloc (.cells #[.int .i64 x, .slice a n cap] 41) := ⟨_, rfl⟩
  rw [← hwb] at hb0 hG
  have HWb := Lib.hid hwb.symm
  have HG := Lib.hid hG
  have HB0 := Lib.hid hb0
  obtain ⟨cd, hcd⟩ : ∃ c, c = M.lvCode x l := ⟨_, rfl⟩
  obtain ⟨L, hL⟩ : ∃ L, L = M.ordL (M.wtF M.fOne l) x.toNat x.toNat := ⟨_, rfl⟩
  have HC : Hid (Calls Try.prog 87 #[.agg #[.int .i64 x, .slice a n cap], .bool true] wb (VRes (if cd = 0 then (L, 0) else ([], cd)) wb)) := by
    have := liveOrder x a n cap l true wb (h.below hb0)
    unfold M.lvoRes at this
    rw [M.inCode_true, ← hcd, ← hL] at this
    exact this
  have HCd := Lib.hid hcd
  obtain ⟨g0, g1⟩ := hG
  rw [hwb] at g0 g1
  clear h hb0 hwb hcd hL
  by_cases h0 : cd = 0
  · subst h0
    rw [if_pos rfl] at HC
    obtain ⟨N, hxN, hgr, hlive, hnp, n1, n10⟩ := lv_live HCd.out.symm
    subst hxN
    have HGr := Lib.hid hgr
    have HLive := Lib.hid hlive
    have hn30 : n ≤ 30 := by rw [← HLn.out]; exact (gr_N hgr).2.2
    have HKb : Hid (∀ k, k ≤ n → 1 ≤ M.tokK l k ∧ M.tokK l k ≤ 5) := fun k hk => M.tokK_bd l (tok5 hgr) k (by rw [HLn.out]; exact hk)
    have hk0 : M.tokK l 0 = 1 := rfl
    clear hgr hlive hnp
    go_enter Try.func40, Try.ntmps40
    go_wp2_with fail
    rw [HWb.out]
    refine HC.out.mono ?_
    rintro e w2 ⟨b2, m2, c2, rfl, ho, hb⟩
    have HBw := Lib.hid (HB0.out.trans (hb.mono HB0.out.size))
    have HBb := Lib.hid hb
    have HG2 := Lib.hid (HG.out.below hb)
    clear g0 g1 ho hb
    obtain ⟨g0, g1⟩ := HG2.out
    go_wp2
    clear g0 g1
    go_loopw [6, 26] (fun bv kv wr => ∃ (k : Nat), k ≤ n ∧ kv = .int .i64 k ∧ bv = .int .i64 (M.tokK l k) ∧ Hid (Below w2.heap.size w2 wr)) (fun _ kv _ => n - (intOf kv).toNat)
    case atStart => exact ⟨0, Nat.zero_le _, rfl, by rw [hk0]; rfl, Below.refl _ _⟩
    case round =>
      obtain ⟨k, hk, rfl, rfl, HB⟩ := hrel
      obtain ⟨wo, rfl⟩ : ∃ x, x = wr := ⟨_, rfl⟩
      by_cases hkl : k < n
      · have hki : (k : Int) < (n : Int) := by omega
        obtain ⟨pb, off, p0, p1, p2, p3, rfl, -, hp, c0, c1, c2', c3⟩ := (HI.out.below (HBw.out.trans (HB.out.mono HBw.out.size))).at k hkl
        obtain ⟨i, j0, hi, hj, rfl, rfl, t2, t2', t3, t3'⟩ := gr_at HGr.out (by rw [HLn.out]; exact hkl) hp
        obtain ⟨tk, rfl, htk⟩ : ∃ t : Nat, p3 = (t : Int) ∧ t ≤ 5 := ⟨p3.toNat, by omega, by omega⟩
        have HNx := Lib.hid (M.tokK_next hp)
        obtain ⟨κ, hκ⟩ : ∃ κ, κ = M.tokK l k := ⟨_, rfl⟩
        rw [← hκ] at HNx ⊢
        have hbp : Hid (Below w2.heap.size w2 (wo.alloc (.cells #[.int .i64 j0, .int .i64 i, .int .i64 p2, .int .i64 tk] 52))) := HB.out.trans ((b_alloc wo _).mono HB.out.size)
        clear hp hκ
        go_wp2
        go_roundw
        case rel => exact ⟨k + 1, by omega, by go_num, by rw [HNx.out]; congr 1; split <;> omega, hbp⟩
        case measure => simp [intOf]; omega
      · obtain rfl : k = n := by omega
        have hki : ¬ (k : Int) < (k : Int) := by omega
        have HBbo := Lib.hid (HBb.out.trans (HB.out.mono HBb.out.size))
        have HBo := Lib.hid (HBw.out.trans (HB.out.mono HBw.out.size))
        have HGo := Lib.hid (HG2.out.below HB.out)
        obtain ⟨K1, K5⟩ := HKb.out k (Nat.le_refl _)
        obtain ⟨K, hK⟩ : ∃ K, K = M.tokK l k := ⟨_, rfl⟩
        rw [← hK] at K1 K5 ⊢
        obtain ⟨g0, g1⟩ := HGo.out
        obtain ⟨s, hs⟩ : ∃ s, s = K * N := ⟨_, rfl⟩
        have hs50 : s ≤ 50 := by rw [hs]; have : K * N ≤ 5 * 10 := Nat.mul_le_mul K5 n10; omega
        have hsz : (K : Int) * (N : Int) = (s : Int) := by rw [hs]; simp
        have hw : wrap64 ((K : Int) * (N : Int)) = (s : Int) := by rw [hsz]; exact IntWalk.wrap64_in _ ⟨by omega, by omega⟩
        have hw' : IntKind.i64.wrap ((K : Int) * (N : Int)) = (s : Int) := by rw [hsz]; exact IntWalk.i64_in _ (by omega)
        have HS := Lib.hid hs
        have HKe : Hid (M.tokK l l.length = K) := by show _ = _; rw [HLn.out]; exact hK.symm
        have hsN : N ≤ s := by rw [hs]; have : 1 * N ≤ K * N := Nat.mul_le_mul_right _ K1; omega
        clear hs hsz hK
        by_cases h10 : s ≤ 10
        · have hgt : ¬ (10 : Int) < (s : Int) := by omega
          have HR : Hid (M.smRes (N : Int) l = (M.stM l N K, 0)) := by
            show _ = _
            unfold M.smRes
            rw [if_pos HCd.out.symm, HKe.out, show (N : Int).toNat = N by omega, ← HS.out, if_pos h10]
          obtain ⟨T, hT⟩ : ∃ T, T = s - N := ⟨_, rfl⟩
          have hTs : s = T + N := by omega
          have hTw : wrap64 ((s : Int) - (N : Int)) = (T : Int) := by rw [hTs]; rw [IntWalk.wrap64_in _ ⟨by omega, by omega⟩]; omega
          have hTw' : IntKind.i64.wrap ((s : Int) - (N : Int)) = (T : Int) := by rw [hTs]; rw [IntWalk.i64_in _ (by omega)]; omega
          have HT := Lib.hid hTs
          have HTw : Hid (wrap64 ((s : Int) - (N : Int)) = (T : Int) ∧ IntKind.i64.wrap ((s : Int) - (N : Int)) = (T : Int)) := ⟨hTw, hTw'⟩
          clear hT hTs hTw hTw'
          have hs1 : 1 ≤ s := by omega
          go_wp2_with fail
          refine (filled s s (-1000000000000000) wo hs1 h10 hs1 h10).mono ?_
          rintro e wf ⟨bf, cf, rfl, ho, hb⟩
          obtain ⟨B, hB⟩ : ∃ B, B = wo.heap.size := ⟨_, rfl⟩
          rw [← hB] at ho hb
          have HBB := Lib.hid hB
          have HOf : Hid (OwnM wf B (.slice bf s cf) (M.mk s s (M.smB (M.cloD l N) N 0))) := ho
          obtain ⟨G, q0, L0, cq0, x0, rfl, hBG, -, -, -, hcG, -, -, -⟩ := HOf.out.at 0 0 (by omega) (by rw [M.mk_rowlen _ _ _ _ (by omega)]; omega)
          have HRow : Hid (∀ i, i < s → ∃ q c, wf.cell? ⟨G, i, none⟩ = some (.slice (some ⟨q, 0, none⟩) s c) ∧ q < wf.heap.size) := fun i hi => by
            obtain ⟨G', q', L', c', x', e1, -, -, e2, -, e3, e4, -, -⟩ := HOf.out.at i 0 hi (by rw [M.mk_rowlen _ _ _ _ hi]; omega)
            injection e1 with e1
            injection e1 with e1
            subst e1
            rw [M.mk_rowlen _ _ _ _ hi] at e2
            subst e2
            exact ⟨q', c', e3, cell_lt e4⟩
          have hwo := HBbo.out.size
          have HBf : Hid (Below wb.heap.size wb wf) := HBbo.out.trans ((by rw [hB] at hb; exact hb : Below wo.heap.size wo wf).mono hwo)
          have hBb : wb.heap.size ≤ B := by rw [hB]; exact hwo
          have hGf : G < wf.heap.size := cell_lt hcG
          clear ho hb hcG g0 g1 hw hw'
          obtain ⟨g0, g1⟩ := HG.out.below HBf.out
          go_wp2
          clear g0 g1 hki hgt
          go_loopw [45] (fun kv wr => ∃ b : Nat, b ≤ K ∧ kv = .int .i64 b ∧ Hid (OwnM wr B (.slice (some ⟨G, 0, none⟩) s cf) (M.mk s s (M.smB (M.cloD l N) N b))) ∧ Hid (Below wb.heap.size wb wr) ∧ Hid (wr.heap[G]? = wf.heap[G]? ∧ wf.heap.size ≤ wr.heap.size)) (fun kv _ => K - (intOf kv).toNat)
          case atStart => exact ⟨0, Nat.zero_le _, rfl, HOf, HBf, rfl, Nat.le_refl _⟩
          case round =>
            obtain ⟨b, hbK, rfl, HO, HB, HGk⟩ := hrel
            obtain ⟨wq, rfl⟩ : ∃ x, x = wr := ⟨_, rfl⟩
            by_cases hlt : b < K
            · have hbi : (b : Int) < (K : Int) := by omega
              obtain ⟨μ, hμ⟩ : ∃ μ : Int, μ = (b : Int) + 1 := ⟨_, rfl⟩
              have hwμ' : IntKind.i64.wrap ((b : Int) + 1) = μ := by rw [hμ]; exact IntWalk.i64_in _ (by omega)
              have hwμ : wrap64 ((b : Int) + 1) = μ := by rw [hμ]; exact IntWalk.wrap64_in _ ⟨by clear hwμ'; omega, by clear hwμ'; omega⟩
              have HMu := Lib.hid hμ
              clear hμ
              obtain ⟨g0, g1⟩ := HG.out.below HB.out
              go_wp2_with fail
              refine (closedMatrixM N a k cap l μ wq (HI.out.below (HB0.out.trans (HB.out.mono HB0.out.size))) HGr.out HLive.out).mono ?_
              rintro e wc ⟨bc, cc, rfl, ho, hb⟩
              rw [M.cloD_eq l N b μ HMu.out] at ho
              have HOc := Lib.hid ho
              have HOa := Lib.hid (HO.out.below hb)
              have HBa := Lib.hid (HB.out.trans (hb.mono HB.out.size))
              have hGq : G < wq.heap.size := by have := HGk.out.2; omega
              have HGa : Hid (wc.heap[G]? = wf.heap[G]? ∧ wf.heap.size ≤ wq.heap.size ∧ wq.heap.size ≤ wc.heap.size) := ⟨(hb.block G hGq).trans HGk.out.1, HGk.out.2, hb.size⟩
              clear ho hb g0 g1
              obtain ⟨g0, g1⟩ := HG.out.below HBa.out
              go_wp2
              clear g0 g1
              obtain ⟨τ, hτ⟩ : ∃ τ, τ = b * N := ⟨_, rfl⟩
              have hτN : τ + N ≤ s := by
                have h1 : (b + 1) * N ≤ K * N := Nat.mul_le_mul_right _ hlt
                rw [← HS.out, Nat.succ_mul, ← hτ] at h1
                exact h1
              have hτz : (b : Int) * (N : Int) = (τ : Int) := by rw [hτ]; simp
              have HTau := Lib.hid hτ
              have HwT : Hid (wrap64 ((b : Int) * (N : Int)) = (τ : Int) ∧ IntKind.i64.wrap ((b : Int) * (N : Int)) = (τ : Int)) := by
                clear hwμ hwμ'
                rw [hτz]; exact ⟨IntWalk.wrap64_in _ ⟨by omega, by omega⟩, IntWalk.i64_in _ (by omega)⟩
              clear hτ hτz
              have HOi : Hid (OwnM wc B (.slice (some ⟨G, 0, none⟩) s cf) (M.mk s s (M.smI (M.cloD l N) N b 0))) := by
                show OwnM _ _ _ _
                rw [M.smI_zero]; exact HOa.out
              clear HOa
              go_loopw [53] (fun kv wr => ∃ i : Nat, i ≤ N ∧ kv = .int .i64 i ∧ Hid (OwnM wr B (.slice (some ⟨G, 0, none⟩) s cf) (M.mk s s (M.smI (M.cloD l N) N b i))) ∧ Hid (Below wb.heap.size wb wr) ∧ Hid (wr.heap[G]? = wf.heap[G]? ∧ wc.heap.size ≤ wr.heap.size) ∧ Hid (∀ x, wq.heap.size ≤ x → x < wc.heap.size → wr.heap[x]? = wc.heap[x]?)) (fun kv _ => N - (intOf kv).toNat)
              case atStart => exact ⟨0, Nat.zero_le _, rfl, HOi, HBa, ⟨HGa.out.1, Nat.le_refl _⟩, fun _ _ _ => rfl⟩
              case round =>
                clear HOi
                obtain ⟨i, hiN, rfl, HOi, HBi, HGi, HSi⟩ := hrel
                obtain ⟨wi, rfl⟩ : ∃ x, x = wr := ⟨_, rfl⟩
                by_cases hil : i < N
                · have hii : (i : Int) < (N : Int) := by clear hwμ hwμ'; omega
                  have his : i < s := by clear hwμ hwμ'; omega
                  have hisi : (i : Int) < (s : Int) := by clear hwμ hwμ'; omega
                  obtain ⟨g0, g1⟩ := HG.out.below HBi.out
                  obtain ⟨ab, ao, ra, rc, rfl, -, hcr, hIr⟩ := (HOc.out.keep HSi.out).mat.rect_at (rect_mk N N _) i hil
                  obtain ⟨q, cq, hcq, hqf⟩ := HRow.out i his
                  have hcq' : wi.cell? ⟨G, i, none⟩ = some (.slice (some ⟨q, 0, none⟩) s cq) := by rw [← hcq]; exact World.cell?_of_block HGi.out.1
                  have HcD : Hid (wi.drew.cell? ⟨G, i, none⟩ = some (.slice (some ⟨q, 0, none⟩) s cq)) := ((b_draws wi 1).cell (cell_lt hcq')).trans hcq'
                  have HOd : Hid (OwnM wi.drew B (.slice (some ⟨G, 0, none⟩) s cf) (M.mk s s (M.smI (M.cloD l N) N b i))) := HOi.out.below (b_draws wi 1)
                  obtain ⟨row, hrow⟩ : ∃ row, row = (M.mk N N (M.cloD l N (b + 1))).getD i [] := ⟨_, rfl⟩
                  rw [← hrow] at hIr
                  have HId : Hid (Ints .i64 wi.drew ra N row) := hIr.below (b_draws wi 1)
                  have HRo : Hid (row = (List.range N).map (M.cloD l N (b + 1) i)) := hrow.trans (M.mk_row _ _ _ _ hil)
                  have HQf : Hid (q < wf.heap.size ∧ q ≠ G) := ⟨hqf, HOi.out.ne his hcq'⟩
                  have hcap : s ≤ cq := HOi.out.cap his hcq'
                  have hcτ : ¬ cq = τ := by clear hwμ hwμ'; omega
                  have hle : N ≤ s - τ := by clear hwμ hwμ'; omega
                  clear hIr hrow hcq hqf
                  obtain ⟨hw1, hw1'⟩ := HwT.out
                  have hτs : ¬ (s : Int) < (τ : Int) := by clear hwμ hwμ' hw1 hw1'; omega
                  go_wp2
                  go_region_law (refine step_copyM rfl (.tmp 66) (.tmp 67) rfl B s cf G i q s cq τ (s - τ) (cq - τ) _ HOd.out his HcD.out (by go_simp) ra N rc row (by go_simp) HId.out n1 hle hτN ?_; intro w4 hO4 hB4 hE4)
                  all_goals clear g0 g1 hcq' hcap hcτ hle
                  all_goals go_wp2
                  all_goals (
                    have HN4 : Hid (OwnM w4 B (.slice (some ⟨G, 0, none⟩) s cf) (M.mk s s (M.smI (M.cloD l N) N b (i + 1)))) := by
                      have e : M.mk s s (M.putF row (M.smI (M.cloD l N) N b i) i τ) = M.mk s s (M.smI (M.cloD l N) N b (i + 1)) := M.mk_congr fun r hr c hc => by rw [HTau.out]; exact M.smI_next (M.cloD l N) N b i r c row HRo.out
                      show OwnM _ _ _ _
                      rw [← e]
                      exact hO4.out
                    have HB4' : Hid (Below wb.heap.size wb w4) := hB4.out _ _ hBb HBi.out.drew
                    have HG4 : Hid (w4.heap[G]? = wf.heap[G]? ∧ wc.heap.size ≤ w4.heap.size) := ⟨(hE4.out.1 G (fun e => HQf.out.2 e.symm)).trans HGi.out.1, by rw [hE4.out.2]; exact HGi.out.2⟩
                    have HS4 : Hid (∀ x, wq.heap.size ≤ x → x < wc.heap.size → w4.heap[x]? = wc.heap[x]?) := fun x h1 h2 => (hE4.out.1 x (fun e => by have e1 := HQf.out.1; have e2 := HGa.out.2.1; clear hwμ hwμ' hw1 hw1'; omega)).trans (HSi.out x h1 h2)
                    clear hO4 hB4 hE4
                    go_roundw
                    (case rel => exact ⟨i + 1, by clear hwμ hwμ' hw1 hw1'; omega, by go_num, HN4, HB4', HG4, HS4⟩)
                    (case measure => (clear hwμ hwμ' hw1 hw1'; simp [intOf]; omega)))
                · obtain rfl : i = N := by clear hwμ hwμ'; omega
                  have hii : ¬ (i : Int) < (i : Int) := by clear hwμ hwμ'; omega
                  obtain ⟨g0, g1⟩ := HG.out.below HBi.out
                  go_wp2
                  go_roundw
                  case rel => exact ⟨b + 1, by clear hwμ hwμ'; omega, congrArg (Value.int .i64) (by have := HMu.out; clear hwμ hwμ'; omega), HOi, HBi, HGi.out.1, by have h1 := HGi.out.2; have h2 := HGa.out.2; clear hwμ hwμ'; omega⟩
                  case measure => (have := HMu.out; clear hwμ hwμ'; simp [intOf]; omega)
            · obtain rfl : b = K := by omega
              have hbi : ¬ (b : Int) < (b : Int) := by omega
              obtain ⟨g0, g1⟩ := HG.out.below HB.out
              obtain ⟨hT1, hT2⟩ := HTw.out
              have HEnd : Hid (M.mk s s (M.smD (M.cloD l N) N b T) = M.stM l N b) := by
                show _ = _
                unfold M.stM
                rw [← HS.out]
                exact M.mk_congr fun r hr c hc => M.smD_end _ _ _ s T r c HT.out hr
              have HO4 : Hid (OwnM wq B (.slice (some ⟨G, 0, none⟩) s cf) (M.mk s s (M.smD (M.cloD l N) N b 0))) := by
                show OwnM _ _ _ _
                rw [M.smD_zero]; exact HO.out
              have HB4 := HB
              clear HO HB HGk
              go_wp2
              clear g0 g1 hT1 hT2 hbi
              go_loopw [75] (fun kv wr => ∃ t : Nat, t ≤ T ∧ kv = .int .i64 t ∧ Hid (OwnM wr B (.slice (some ⟨G, 0, none⟩) s cf) (M.mk s s (M.smD (M.cloD l N) N b t))) ∧ Hid (Below wb.heap.size wb wr)) (fun kv _ => T - (intOf kv).toNat)
              case atStart => exact ⟨0, Nat.zero_le _, rfl, HO4, HB4⟩
              case round =>
                clear HO4 HB4
                obtain ⟨t, htT, rfl, HO, HB⟩ := hrel
                obtain ⟨wi, rfl⟩ : ∃ x, x = wr := ⟨_, rfl⟩
                obtain ⟨g0, g1⟩ := HG.out.below HB.out
                by_cases htl : t < T
                · have hti : (t : Int) < (T : Int) := by omega
                  obtain ⟨ρ, hρ⟩ : ∃ ρ, ρ = N + t := ⟨_, rfl⟩
                  have hTs := HT.out
                  have hρs : ρ < s := by omega
                  have hts : t < s := by omega
                  have hρi : (ρ : Int) < (s : Int) := by omega
                  have htsi : (t : Int) < (s : Int) := by omega
                  obtain ⟨G', q, L', c', x', e1, -, hqB, e2, -, hc1, hc2, hc3, hput⟩ := HO.out.at ρ t hρs (by rw [M.mk_rowlen _ _ _ _ hρs]; exact hts)
                  injection e1 with e1
                  injection e1 with e1
                  subst e1
                  rw [M.mk_rowlen _ _ _ _ hρs] at e2
                  subst e2
                  have HPut : Hid (OwnM (wi.setCell ⟨q, t, none⟩ (.int .i64 0)) B (.slice (some ⟨G, 0, none⟩) L' cf) (M.mk L' L' (M.smD (M.cloD l N) N b (t + 1)))) := by
                    have := hput 0
                    rw [M.mk_set _ _ _ _ _ _ hρs] at this
                    show OwnM _ _ _ _
                    rw [M.mk_congr (fun r hr c hc => (M.smD_next (M.cloD l N) N b t r c).symm), ← hρ]
                    exact this
                  have HBp : Hid (Below wb.heap.size wb (wi.setCell ⟨q, t, none⟩ (.int .i64 0))) := HB.out.setCell (by show wb.heap.size ≤ q; omega) _
                  have hrz : (N : Int) + (t : Int) = (ρ : Int) := by rw [hρ]; omega
                  have hr1' : IntKind.i64.wrap ((N : Int) + (t : Int)) = (ρ : Int) := by rw [hrz]; exact IntWalk.i64_in _ (by omega)
                  have hr1 : wrap64 ((N : Int) + (t : Int)) = (ρ : Int) := by rw [hrz]; exact IntWalk.wrap64_in _ ⟨by clear hr1'; omega, by clear hr1'; omega⟩
                  clear hput hρ hTs hrz
                  go_wp2
                  go_roundw
                  case rel => exact ⟨t + 1, by clear hr1 hr1'; omega, by go_num, HPut, HBp⟩
                  case measure => (clear hr1 hr1'; simp [intOf]; omega)
                · obtain rfl : t = T := by omega
                  have hti : ¬ (t : Int) < (t : Int) := by omega
                  have HOz : Hid (OwnM wi w.heap.size (.slice (some ⟨G, 0, none⟩) s cf) (M.stM l N b)) := by
                    show OwnM _ _ _ _
                    rw [← HEnd.out]
                    exact HO.out.mono (Nat.le_trans HB0.out.size hBb)
                  have HBz := Lib.hid (HB0.out.trans (HB.out.mono HB0.out.size))
                  go_wp2
                  go_ret2
                  rw [HR.out]
                  exact ⟨_, _, _, rfl, HOz.out, HBz.out⟩
        · have hgt : (10 : Int) < (s : Int) := by omega
          have HR : Hid (M.smRes (N : Int) l = ([], 3)) := by
            show _ = _
            unfold M.smRes
            rw [if_pos HCd.out.symm, HKe.out, show (N : Int).toNat = N by omega, ← HS.out, if_neg h10]
          go_wp2
          go_ret2
          exact MRes.nil HR.out HBo.out
  · rw [if_neg h0] at HC
    have h0' : (cd != 0) = true := by simpa using h0
    have HR : Hid (M.smRes x l = ([], cd)) := by show _ = _; unfold M.smRes; rw [← HCd.out, if_neg h0]
    clear h0
    go_enter Try.func40, Try.ntmps40
    go_wp2_with fail
    rw [HWb.out]
    refine HC.out.mono ?_
    rintro e w2 ⟨b2, m2, c2, rfl, ho, hb⟩
    have HBw := Lib.hid (HB0.out.trans (hb.mono HB0.out.size))
    clear g0 g1 ho hb
    go_wp2
    go_ret2
    exact MRes.nil HR.out HBw.out
end V
end Go.Proofs.Ytjbffpmelglegaa

/- UpstreamMean in the model. -/
import Derived.Test.YtmldjmlihkcchaaUps
namespace Go.Proofs.Ytmldjmlihkcchaa
namespace V
set_option maxRecDepth 100000
open Go.RowKit
set_option maxRecDepth 100000 in
set_option maxHeartbeats 4000000 in
theorem sUpstreamMean (a : Option Addr) (n cap : Nat) (R : List (List Int)) (x : Int) (w : World) (h : Mat w a n R) :
    Calls Try.prog 40 #[.slice a n cap, .int .i64 x] w fun e w' => e = .returned (.tuple #[.agg #[.int .i64 (M.upRes R x).1.1, .int .i64 (M.upRes R x).1.2], .int .i64 (M.upRes R x).2]) ∧ Below w.heap.size w w' := by
  have HA := Lib.hid h
  have HRn := Lib.hid h.1
  have HB0 : Hid (∀ qd, Below (w.alloc (.cells #[.int .i64 0, .int .i64 0] 27)).heap.size (w.alloc (.cells #[.int .i64 0, .int .i64 0] 27)) ((w.alloc (.cells #[.int .i64 0, .int .i64 0] 27)).drewN qd)) := fun qd => b_draws _ _
  have HA0 : Hid (∀ qd, Below w.heap.size w ((w.alloc (.cells #[.int .i64 0, .int .i64 0] 27)).drewN qd)) := fun qd => (b_alloc w _).trans ((HB0.out qd).mono (by simp))
  by_cases hs : M.sqB R = true
  · have HS := Lib.hid hs
    have HQ := Lib.hid (sq_of h hs)
    obtain ⟨n1, n2⟩ := (sq_of h hs).2.2.2
    obtain ⟨c, hc⟩ : ∃ c, c = M.inN n x := ⟨_, rfl⟩
    have HC := Lib.hid hc.symm
    cases c with
    | true =>
      obtain ⟨k, hk, rfl⟩ := M.inN_j hc.symm
      have hki2 : (k : Int) < (n : Int) := by omega
      obtain ⟨r, hr⟩ : ∃ r, r = M.cycMeanRes (M.mk n n (M.upF2 (M.ent R) n k)) := ⟨_, rfl⟩
      have HR := Lib.hid hr.symm
      have HE : Hid (M.upRes R k = r) := by
        show _ = _
        have := M.up_both hs k
        rw [h.1] at this
        unfold M.upRes
        rw [if_pos hs, h.1, ← hc, if_pos rfl, hr, this]; rfl
      have HRe : Hid (M.mk n n (M.midG (M.upF2 (M.ent R) n k) (M.ent R) 0 0) = R) := by
        show _ = _
        rw [M.midG_zero]
        have e := M.mk_self R n (fun i hi => HQ.out.2.1.2 i (by rw [← HQ.out.2.1.1]; exact hi))
        rw [h.1] at e
        exact e
      clear h hs hc hr
      obtain ⟨⟨r1, r2⟩, r3⟩ := r
      obtain ⟨ab, aoff, -, -, rfl, -, -⟩ := HQ.out.1.rect_first HQ.out.2.1 n1
      go_enter Try.func40, Try.ntmps40
      go_wp2_with fail
      refine (sSquare_b _ _ _ R _ true HS.out (HA.out.below (b_alloc _ _))).mono ?_
      rintro e w' ⟨rfl, qd, rfl⟩
      go_wp2_with fail
      refine (sNode_b _ _ _ (k : Int) _ true HC.out (by omega)).mono ?_
      rintro e w' ⟨rfl, rfl⟩
      go_wp2_with fail
      refine (sReach _ _ _ R _ (HQ.out.below (HA0.out qd))).mono ?_
      rintro e w1 ⟨tb, tc, rfl, htb, hb⟩
      obtain ⟨tg, -, rfl, -, -⟩ := htb.at 0 0 n1 n1
      have HT1 := Lib.hid htb
      have HB1 := Lib.hid ((HB0.out qd).trans (hb.mono (HB0.out qd).size))
      have HM1 := Lib.hid (HA.out.below ((HA0.out qd).trans (hb.mono (HA0.out qd).size)))
      clear htb hb
      go_wp2_with fail
      refine (sOwnM _ _ _ R _ HM1.out (by omega) (fun i hi => by rw [HQ.out.2.1.2 i hi]; omega)).mono ?_
      rintro e w2 ⟨a2, cap2, rfl, hO, hb⟩
      rw [← HRe.out] at hO
      obtain ⟨g, -, -, -, -, rfl, -⟩ := hO.tri (rect_mk _ _ _) 0 0 0 (by omega) (by omega) (by omega)
      have HO0 := Lib.hid hO
      have HBo := Lib.hid hb
      clear hO hb
      go_wp2
      go_loopw [8, 9] (fun i _ wr => ∃ s : Nat, s ≤ n ∧ i = .int .i64 s ∧ Hid (OwnM wr w1.heap.size (.slice (some ⟨g, 0, none⟩) n cap2) (M.mk n n (M.midG (M.upF2 (M.ent R) n k) (M.ent R) s 0))) ∧ Hid (Below w1.heap.size w1 wr)) (fun i _ _ => n - (intOf i).toNat)
      case atStart => exact ⟨0, Nat.zero_le _, rfl, HO0, HBo⟩
      case round =>
        clear HO0 HBo
        obtain ⟨s, hs, rfl, HO, HB⟩ := hrel
        by_cases hsl : s < n
        · have hsi : (s : Int) < (n : Int) := by omega
          go_wp2
          go_loopw [9] (fun i wr => ∃ t : Nat, t ≤ n ∧ i = .int .i64 t ∧ Hid (OwnM wr w1.heap.size (.slice (some ⟨g, 0, none⟩) n cap2) (M.mk n n (M.midG (M.upF2 (M.ent R) n k) (M.ent R) s t))) ∧ Hid (Below w1.heap.size w1 wr)) (fun i _ => n - (intOf i).toNat)
          case atStart => exact ⟨0, Nat.zero_le _, rfl, HO, HB⟩
          case round =>
            clear HO HB
            obtain ⟨t, ht, rfl, HO, HB⟩ := hrel
            by_cases htl : t < n
            · have hti : (t : Int) < (n : Int) := by omega
              obtain ⟨g1, q1, e1, r1', r2'⟩ := (HT1.out.below HB.out).at s k hsl hk
              injection e1 with e1
              injection e1 with e1
              subst e1
              obtain ⟨g1, q2, e1, r3', r4'⟩ := (HT1.out.below HB.out).at t k htl hk
              injection e1 with e1
              injection e1 with e1
              subst e1
              obtain ⟨g2, q3, c3, -, -, hgg, hq, h1, h2, -, -, -, h6, ho⟩ := HO.out.tri (rect_mk _ _ _) s t t hsl htl htl
              injection hgg with hgg
              injection hgg with hgg
              subst hgg
              obtain ⟨u, hu⟩ : ∃ u, u = M.rchB (M.ent R) n s k := ⟨_, rfl⟩
              obtain ⟨y, hy⟩ : ∃ y, y = M.rchB (M.ent R) n t k := ⟨_, rfl⟩
              rw [← hu] at r2'
              rw [← hy] at r4'
              have hf : M.upF2 (M.ent R) n k s t = if u && y then M.ent R s t else -1000000000000000 := by unfold M.upF2; rw [hu, hy]
              by_cases huy : (u && y) = true
              · rw [Bool.and_eq_true] at huy
                obtain ⟨rfl, rfl⟩ := huy
                have HO2 : Hid (OwnM wr w1.heap.size (.slice (some ⟨g, 0, none⟩) n cap2) (M.mk n n (M.midG (M.upF2 (M.ent R) n k) (M.ent R) s (t + 1)))) := by
                  show OwnM _ _ _ _; rw [← M.midG_same _ _ _ _ _ hf]; exact HO.out
                clear ho hf hu hy h2
                go_wp2
                go_roundw
                case rel => exact ⟨t + 1, by omega, by go_num, HO2, HB⟩
                case measure => simp [intOf]; omega
              · rw [if_neg huy] at hf
                have hN := ho (-1000000000000000)
                rw [← hf, M.midG_next _ _ _ _ _ hsl, hf] at hN
                have HN := Lib.hid hN
                have HBn := Lib.hid (HB.out.setCell (p := ⟨q3, t, none⟩) hq (.int .i64 (-1000000000000000)))
                clear ho hf hu hy hN
                cases u with
                | false =>
                  clear huy
                  go_wp2
                  go_roundw
                  case rel => exact ⟨t + 1, by omega, by go_num, HN, HBn⟩
                  case measure => simp [intOf]; omega
                | true =>
                  cases y with
                  | true => exact absurd rfl huy
                  | false =>
                    clear huy
                    go_wp2
                    go_roundw
                    case rel => exact ⟨t + 1, by omega, by go_num, HN, HBn⟩
                    case measure => simp [intOf]; omega
            · obtain rfl : t = n := by omega
              have HO2 : Hid (OwnM wr w1.heap.size (.slice (some ⟨g, 0, none⟩) t cap2) (M.mk t t (M.midG (M.upF2 (M.ent R) t k) (M.ent R) (s + 1) 0))) := by
                show OwnM _ _ _ _; rw [← M.midG_row_end]; exact HO.out
              go_wp2
              go_roundw
              case rel => exact ⟨s + 1, by omega, by go_num, HO2, HB⟩
              case measure => simp [intOf]; omega
        · obtain rfl : s = n := by omega
          have HO2 : Hid (OwnM wr w1.heap.size (.slice (some ⟨g, 0, none⟩) s cap2) (M.mk s s (M.upF2 (M.ent R) s k))) := by
            show OwnM _ _ _ _; rw [← M.midG_end]; exact HO.out
          go_wp2_with fail
          refine (sCycleMean _ _ _ _ _ HO2.out.mat).mono ?_
          rintro e w3 ⟨rfl, hb⟩
          rw [HR.out]
          have hb1 := HB1.out.trans ((HB.out.trans (hb.mono HB.out.size)).mono HB1.out.size)
          have hz := hb1.size
          simp at hz
          obtain ⟨hcc, hff⟩ := bcell hb1
          have z1 : w.heap.size < w3.heap.size := by omega
          clear hb
          go_wp2
          exact bodyPost_ret (v := .tuple #[.agg #[.int .i64 r1, .int .i64 r2], .int .i64 r3]) (by simp [results, Try.results40, go_sem, z1, hcc]) rfl ⟨by rw [HE.out], bel1s hb1⟩
    | false =>
      have HE : Hid (M.upRes R x = ((0, 0), 2)) := by
        show _ = _
        unfold M.upRes
        rw [if_pos hs, h.1, ← hc]; rfl
      clear h hs hc
      go_enter Try.func40, Try.ntmps40
      go_wp2_with fail
      refine (sSquare_b _ _ _ R _ true HS.out (HA.out.below (b_alloc _ _))).mono ?_
      rintro e w' ⟨rfl, qd, rfl⟩
      go_wp2_with fail
      refine (sNode_b _ _ _ x _ false HC.out (by omega)).mono ?_
      rintro e w' ⟨rfl, rfl⟩
      go_wp2
      exact bodyPost_ret (v := .tuple #[.agg #[.int .i64 0, .int .i64 0], .int .i64 2]) (by simp [results, Try.results40, go_sem]) rfl ⟨by rw [HE.out], bel1s (b_draws _ _)⟩
  · simp only [Bool.not_eq_true] at hs
    have HS := Lib.hid hs
    have HE : Hid (M.upRes R x = ((0, 0), 1)) := by show _ = _; unfold M.upRes; rw [hs]; rfl
    clear h hs
    go_enter Try.func40, Try.ntmps40
    go_wp2_with fail
    refine (sSquare_b _ _ _ R _ false HS.out (HA.out.below (b_alloc _ _))).mono ?_
    rintro e w' ⟨rfl, qd, rfl⟩
    go_wp2
    exact bodyPost_ret (v := .tuple #[.agg #[.int .i64 0, .int .i64 0], .int .i64 1]) (by simp [results, Try.results40, go_sem]) rfl ⟨by rw [HE.out], bel1s (b_draws _ _)⟩
end V
end Go.Proofs.Ytmldjmlihkcchaa

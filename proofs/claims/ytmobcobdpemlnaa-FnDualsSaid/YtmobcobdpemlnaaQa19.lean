/- Texts laid together: Bas, Dpe, Dpf, Pri, Dpg, Cha, Dph. -/
import Derived.Test.YtmobcobdpemlnaaQa18
import Derived.Test.YtmobcobdpemlnaaQa9
import Derived.Test.YtmobcobdpemlnaaQa7
import Derived.StillTailTactics
import Derived.Test.YtmobcobdpemlnaaQa11
import Derived.Test.YtmobcobdpemlnaaQa10
import Derived.Test.YtmobcobdpemlnaaQa13
import Derived.Deep.RegionHeld3
import Derived.Test.YtmobcobdpemlnaaQa14
set_option linter.unusedSimpArgs false
set_option linter.unusedVariables false
set_option linter.unusedSectionVars false
namespace Go.Proofs.Ytmobcobdpemlnaa
namespace M
/-- The assignment whose first k rows are done. -/
def asK (R : List (List Int)) (n k : Nat) : List Int := (List.range n).map fun i => if i < k then ((pickC R n i (stS R i) : Nat) : Int) else 0
theorem asK_zero (R : List (List Int)) (n : Nat) : asK R n 0 = (List.range n).map fun _ => 0 := by unfold asK; simp
theorem asK_set {R : List (List Int)} {n k : Nat} (hk : k < n) : (asK R n k).set k ((pickC R n k (stS R k) : Nat) : Int) = asK R n (k + 1) := by
  unfold asK
  apply List.ext_getElem
  · simp
  · intro i h1 h2
    simp only [List.length_set, List.length_map, List.length_range] at h1
    rw [List.getElem_set]
    by_cases e : k = i
    · subst e; simp
    · rw [if_neg e]
      simp only [List.getElem_map, List.getElem_range]
      by_cases h : i < k
      · rw [if_pos h, if_pos (by omega)]
      · rw [if_neg h, if_neg (by omega)]
theorem asK_all (R : List (List Int)) : asK R R.length R.length = asg R := by
  rw [asg_rows]
  unfold asK asgP
  apply List.map_congr_left
  intro i hi
  rw [if_pos (List.mem_range.1 hi)]
theorem asK_len (R : List (List Int)) (n k : Nat) : (asK R n k).length = n := by simp [asK]
end M
namespace V
set_option maxRecDepth 100000
open Go.RowKit
/-- A column is taken out of a set. -/
theorem bit_take {s j : Nat} (hs : s < 1024) (hj : j < 10) (hb : s.testBit j = true) : ∃ P : Int, wrap64 (2 ^ j) = P ∧ IntKind.i64.wrap (2 ^ j) = P ∧ bits BinOp.andNot IntKind.i64 (s : Nat) P = ((s - 2 ^ j : Nat) : Int) := by
  have hP := M.andNot_bit j hj s hs hb
  obtain ⟨P, hP0⟩ : ∃ P : Int, P = ((2 ^ j : Nat) : Int) := ⟨_, rfl⟩
  have hP1 : P ≤ 1024 ∧ 0 ≤ P := by
    have h1 : 2 ^ j ≤ 2 ^ 10 := Nat.pow_le_pow_right (by decide) (by omega)
    generalize 2 ^ j = p at h1 hP0
    omega
  have h2 : (2 : Int) ^ j = P := by rw [hP0]; push_cast; rfl
  refine ⟨P, ?_, ?_, by rw [hP0]; exact hP⟩
  · rw [h2]; exact IntWalk.wrap64_in _ ⟨by omega, by omega⟩
  · rw [h2, IntKind.wrap_i64]; omega
set_option maxRecDepth 100000 in
set_option maxHeartbeats 2000000 in
theorem bestAssignment (a : Option Addr) (n cap : Nat) (R : List (List Int)) (w : World) (h : Mat w a n R) :
    Calls Try.prog 34 #[.slice a n cap] w (VRes (M.asgRes R) w) := by
  have HA := Lib.hid h
  cases hs : M.sqB R with
  | false =>
    have HE : Hid (M.asgRes R = ([], 1)) := by show _ = _; unfold M.asgRes; rw [if_neg (by rw [hs]; decide)]
    have HS := Lib.hid hs
    clear h hs
    go_enter Try.func34, Try.ntmps34
    go_wp2_with (go_at_call 56; refine (isSquare_b _ _ _ R _ false HS.out HA.out).mono ?_; rintro e w' ⟨rfl, rfl⟩)
    go_ret2
    exact VRes.nil HE.out (Below.refl _ _)
  | true =>
    obtain ⟨hr, n1, n3⟩ := rect_sq hs h.1
    have hq := M.sq_is hs
    have hn := h.1
    have hN1 := two_pow_le n3
    have h0 := Nat.two_pow_pos n
    have HR := Lib.hid hr
    have HS := Lib.hid hs
    have HK : Hid (M.dp R n (2 ^ n - 1) = M.perm R) := by show _ = _; unfold M.perm; rw [hn]
    have HT : Hid (∀ w1, Below w.heap.size w w1 → Calls Try.prog 81 #[.slice a n cap] w1 (TalPost R n w1)) := fun w1 hb => talliesOf a n cap R w1 (h.below hb) hr hq
    have HC : Hid (∀ w1, Calls Try.prog 82 #[.slice a n cap] w1 fun e w' => e = .returned (.int .i64 ((2 ^ n - 1 : Nat) : Int)) ∧ w1 = w') := fun w1 => allColumns a n cap w1 n3
    by_cases hbot : (M.perm R).1 = -1000000000000000
    · have HE : Hid (M.asgRes R = ([], 4)) := by show _ = _; unfold M.asgRes; rw [if_pos hs, if_pos hbot]
      rw [← HK.out] at hbot
      unfold TalPost at HT
      obtain ⟨N, hN⟩ : ∃ N, N = 2 ^ n := ⟨_, rfl⟩
      rw [← hN] at hN1 h0 HT HC hbot
      obtain ⟨K, hK⟩ : ∃ K, K = N - 1 := ⟨_, rfl⟩
      rw [← hK] at HC hbot
      have hK1 : K < N := by omega
      have hK2 : (K : Int) < 1024 := by omega
      clear h hs hr hq HK hN hK
      go_enter Try.func34, Try.ntmps34
      go_wp2_with (go_at_call 56; refine (isSquare_b _ _ _ R _ true HS.out HA.out).mono ?_; rintro e w' ⟨rfl, rfl⟩)
      refine (HT.out _ (Below.refl _ _)).mono ?_
      rintro e w1 ⟨b, rfl, hwb, hTa, hb1⟩
      have c1 := hTa.fst (t := K) hK1 (by omega)
      rw [hbot] at c1
      have HB := Lib.hid hb1
      clear hTa hb1 hwb
      go_wp2_with (go_at_call 82; refine (HC.out _).mono ?_; rintro e wx2 ⟨rfl, rfl⟩)
      go_ret2
      exact VRes.nil HE.out HB.out
    · have HE : Hid (M.asgRes R = (M.asg R, 0)) := by show _ = _; unfold M.asgRes; rw [if_pos hs, if_neg hbot]
      have HAll : Hid (M.asK R n n = M.asg R) := by show _ = _; rw [← hn]; exact M.asK_all R
      have HSt : Hid (∀ k, k < n → M.stS R k < 2 ^ n ∧ (M.dp R n (M.stS R k)).1 ≠ -1000000000000000 ∧ M.okCol R n k (M.stS R k) (M.pickC R n k (M.stS R k)) = true) := fun k hk => by
        obtain ⟨i1, i2, i3⟩ := M.st_ok hq hbot k (by omega)
        obtain ⟨p1, p2, p3⟩ := M.pick_row hq hbot (k := k) (by omega)
        rw [hn] at i1 i3 p2
        exact ⟨i1, i3, p2⟩
      have HHere : Hid (∀ k u, k < n → M.okCol R n k (M.stS R k) u = true → (∀ j, j < u → M.okCol R n k (M.stS R k) j = false) → M.pickC R n k (M.stS R k) = u) := fun k u hk g1 g2 => by
        have := M.pick_here hq hbot (k := k) (u := u) (by omega) (by rw [hn]; exact g1) (by rw [hn]; exact g2)
        rw [hn] at this
        exact this
      have HNx : Hid (∀ k, M.stS R (k + 1) = M.stS R k - 2 ^ M.pickC R n k (M.stS R k)) := fun k => by rw [← hn]; rfl
      have hst0 : M.stS R 0 = 2 ^ n - 1 := by rw [← hn]; rfl
      have HDb : Hid (∀ t, t < 2 ^ n → M.Big (M.dp R n t).1) := fun t ht => by
        have := dp_sm hq (s := t) (by rw [hn]; exact ht)
        rw [hn] at this
        exact M.big_sm this (by omega)
      have HL : Hid (∀ b k w2, k < n → ∀ a0 c0, TalW w2 b R n (2 ^ n) → Ints .i64 w2 a0 n (R.getD k []) → Calls Try.prog 83 #[.pointer (some ⟨b, 0, none⟩), .slice a0 n c0, .int .i64 (M.stS R k)] w2 fun e w' => (e = .returned (.int .i64 (M.pickC R n k (M.stS R k))) ∧ M.pickC R n k (M.stS R k) < n ∧ (M.stS R k).testBit (M.pickC R n k (M.stS R k)) = true) ∧ Below w2.heap.size w2 w') := fun b k w2 hk a0 c0 g1 g2 => by
        obtain ⟨i1, i2, i3⟩ := HSt.out k hk
        refine (leastColumn b a0 n c0 (M.stS R k) k R w2 g1 g2 n3 i1 i2 HDb.out (fun j hj => M.big_sm (hq.2 k (by omega) j (by omega)) (by omega)) ⟨_, i3⟩).mono ?_
        rintro e w' ⟨⟨u, rfl, hu, hub, hu1, hu2⟩, hb⟩
        have := HHere.out k u hk hu1 hu2
        rw [this]
        exact ⟨⟨rfl, hu, hub⟩, hb⟩
      have hbot2 := hbot
      rw [← HK.out, ← hst0] at hbot2
      obtain ⟨K, hK⟩ : ∃ K, K = M.stS R 0 := ⟨_, rfl⟩
      have hKN : K < 2 ^ n := by rw [hK, hst0]; omega
      have hK2 : (K : Int) < 1024 := by omega
      rw [← hst0] at HC
      have hcmp : ((M.dp R n (M.stS R 0)).1 == -1000000000000000) = false := by simpa using hbot2
      obtain ⟨d0, hd0⟩ : ∃ d, d = (M.dp R n (M.stS R 0)).1 := ⟨_, rfl⟩
      rw [← hd0] at hcmp
      have HD0 := Lib.hid hd0
      unfold TalPost at HT
      have hmk := run_make_row' (P := Try.prog) 26 2 (.int .i64 0) 8 Try.underlying26 info64 rfl .i64 .i64 n (by omega) (by omega)
      have HSk : Hid (∀ k, k < n → M.stS R k < 2 ^ n) := fun k hk => (HSt.out k hk).1
      have HNN : Hid (2 ^ n ≤ 1024) := hN1
      clear h hs hr hq HK HSt HHere hbot hbot2 hd0 hst0 h0 hN1
      rw [hK] at hK2 hKN
      go_enter Try.func34, Try.ntmps34
      go_wp2_with (go_at_call 56; refine (isSquare_b _ _ _ R _ true HS.out HA.out).mono ?_; rintro e w' ⟨rfl, rfl⟩)
      refine (HT.out _ (Below.refl _ _)).mono ?_
      rintro e w1 ⟨b, rfl, hwb, hTa, hb1⟩
      have c1 := hTa.fst (t := M.stS R 0) hKN (by omega)
      rw [← HD0.out] at c1
      have HTa := Lib.hid hTa
      have HB := Lib.hid hb1
      have hsz := hb1.size
      have HO0 : Hid (Own (w1.alloc (.cells (madeCells #[.int .i64 0] n) 2)) w.heap.size (.slice (some ⟨w1.heap.size, 0, none⟩) n n) (M.asK R n 0)) := by
        rw [M.asK_zero]; exact own_made w1 _ n hsz (by unfold maxLen; omega)
      have HB0 : Hid (Below w1.heap.size w1 (w1.alloc (.cells (madeCells #[.int .i64 0] n) 2))) := b_alloc w1 _
      clear hTa hb1 hwb hKN
      go_wp2_with (go_at_call 82; refine (HC.out _).mono ?_; rintro e wx2 ⟨rfl, rfl⟩)
      go_loopw [5, 28] (fun lv kv wr => ∃ k : Nat, k ≤ n ∧ kv = .int .i64 k ∧ lv = .int .i64 (M.stS R k) ∧ Hid (Own wr w.heap.size (.slice (some ⟨w1.heap.size, 0, none⟩) n n) (M.asK R n k)) ∧ Hid (Below w1.heap.size w1 wr)) (fun _ kv _ => n - (intOf kv).toNat)
      case atStart => exact ⟨0, Nat.zero_le _, rfl, rfl, HO0, HB0⟩
      case round =>
        obtain ⟨k, hk, rfl, rfl, HO, HBk⟩ := hrel
        obtain ⟨wo, rfl⟩ : ∃ x, x = wr := ⟨_, rfl⟩
        clear HO0 HB0
        by_cases hkl : k < n
        · have hki : (k : Int) < (n : Int) := by omega
          obtain ⟨ab, ao, ra, rc, rfl, -, hcr, hIr⟩ := ((HA.out.below HB.out).below HBk.out).rect_at HR.out k hkl
          have hTk := HTa.out.below HBk.out
          have hcall := HL.out b k wo hkl ra rc hTk hIr
          have hSk := HSk.out k hkl
          have hst : M.stS R k < 1024 := by have := HNN.out; omega
          have hNk := HNx.out k
          have hAk := M.asK_set (R := R) hkl
          obtain ⟨j, hj⟩ : ∃ j, j = M.pickC R n k (M.stS R k) := ⟨_, rfl⟩
          rw [← hj] at hcall hNk hAk
          have HCa := Lib.hid hcall
          have HAk := Lib.hid hAk
          have HNk := Lib.hid hNk
          have HJ := Lib.hid hj
          clear hcall hAk hNk hj hTk hIr
          go_wp2_with fail
          refine (HCa.out).mono ?_
          rintro e wx ⟨⟨rfl, hjn, hjb⟩, hbx⟩
          obtain ⟨P, hP1, hP2, hP3⟩ := bit_take hst (by omega) hjb
          have hO2 := HO.out.below hbx
          have hji : (j : Int) < (n : Int) := by omega
          have hk0 := hO2.cellAt k hkl
          have hf0 := hO2.frozenAt k
          have HN : Hid (Own (wx.setCell ⟨w1.heap.size, k, none⟩ (.int .i64 j)) w.heap.size (.slice (some ⟨w1.heap.size, 0, none⟩) n n) (M.asK R n (k + 1))) := by
            rw [← HAk.out]
            exact hO2.set k j
          have HB3 : Hid (Below w1.heap.size w1 (wx.setCell ⟨w1.heap.size, k, none⟩ (.int .i64 j))) := (HBk.out.trans (hbx.mono HBk.out.size)).setCell (Nat.le_refl _) _
          have hk2 : (wx.setCell ⟨w1.heap.size, k, none⟩ (.int .i64 j)).cell? ⟨w1.heap.size, k, none⟩ = some (.int .i64 j) := by
            have := HN.out.cellAt k hkl
            rw [show (M.asK R n (k + 1)).getD k 0 = (j : Int) by unfold M.asK; simp [hkl, HJ.out]] at this
            exact this
          rw [← HNk.out] at hP3
          clear hO2 hbx hjb
          go_wp2
          go_roundw
          case rel => exact ⟨k + 1, by omega, by go_num, rfl, HN, HB3⟩
          case measure => simp [intOf]; omega
        · obtain rfl : k = n := by omega
          have hO := HO.out
          rw [HAll.out] at hO
          have HO := Lib.hid hO
          have HB9 : Hid (Below w.heap.size w wo) := HB.out.trans (HBk.out.mono hsz)
          clear hO
          go_wp2
          go_ret2
          rw [HE.out]
          exact ⟨_, _, _, rfl, HO.out, HB9.out⟩
end V
end Go.Proofs.Ytmobcobdpemlnaa

namespace Go.Proofs.Ytmobcobdpemlnaa
namespace V
set_option maxRecDepth 100000
open Go.RowKit
set_option maxRecDepth 100000 in
set_option maxHeartbeats 4000000 in
theorem sPart10 (a : Option Addr) (n cap : Nat) (R : List (List Int)) (a' : Option Addr) (N cap' : Nat) (l : List Int) (w : World) (h : Mat w a n R) (h' : Ints .i64 w a' N l) (hs : M.sqB R = true) (hl : M.ndsB n l = true) (hN : N ≤ 10) :
    Calls Try.prog 66 #[.slice a n cap, .slice a' N cap'] w fun e w' => e = .returned (.int .i64 (M.perm (M.partQ R l)).1) ∧ Below w.heap.size w w' := by
  have HA := Lib.hid h
  have HI := Lib.hid h'
  have hlN : l.length = N := h'.1
  by_cases h0 : N = 0
  · have HE : Hid ((M.perm (M.partQ R l)).1 = 0) := by show _ = _; rw [M.perm_nil (by rw [M.partQ_len, hlN, h0])]
    subst h0
    clear h h' hs hl hlN
    go_enter Try.func66, Try.ntmps66
    go_wp2
    go_ret
    exact ⟨congrArg (fun x => Ending.returned (.int .i64 x)) HE.out.symm, Below.refl _ _⟩
  · have hq := M.sqB_t hs
    obtain ⟨n1, n2, n3⟩ : R.length = n ∧ 1 ≤ n ∧ n ≤ 10 := ⟨h.1, by have := (M.isMat_t hq.1); rw [← h.1]; omega, by have := (M.isMat_t hq.1); rw [← h.1]; omega⟩
    have HLen : Hid (∀ i, i < n → (R.getD i []).length = n) := fun i hi => by rw [M.isMat_len hq.1 (by omega), ← hq.2, n1]
    have HNd : Hid (∀ i, i < N → ∃ k : Nat, l.getD i 0 = (k : Int) ∧ k < n) := fun i hi => M.ndsB_t hl (by omega)
    have HSq : Hid (M.sqB (M.partQ R l) = true) := M.partQ_sq hs (by rw [n1]; exact hl) (by omega) (by omega)
    have HPq : Hid (M.partQ R l = M.mk N N (M.partF R l)) := by show _ = _; unfold M.partQ; rw [hlN]
    have hne : ((N : Int) == 0) = false := by simp; omega
    clear h h' hs hl hq n1 hlN
    go_enter Try.func66, Try.ntmps66
    go_wp2_with fail
    refine (sBottom N N _ (by omega) (by omega)).mono ?_
    rintro e w1 ⟨a2, cap2, rfl, ho, hb⟩
    have HO0 : Hid (OwnM w1 w.heap.size (.slice a2 N cap2) (M.mk N N (fun i k => if i < 0 then M.partF R l i k else -1000000000000000))) :=
      (congrArg (OwnM _ _ _) (M.mk_congr fun i _ j _ => by rw [if_neg (Nat.not_lt_zero i)])).mp ho
    have HB0 := Lib.hid hb
    clear ho hb
    go_wp2
    go_loopw [6] (fun i wr => ∃ s : Nat, s ≤ N ∧ i = .int .i64 s ∧ OwnM wr w.heap.size (.slice a2 N cap2) (M.mk N N (fun i k => if i < s then M.partF R l i k else -1000000000000000)) ∧ Below w.heap.size w wr) (fun i _ => N - (intOf i).toNat)
    case atStart => exact ⟨0, Nat.zero_le _, rfl, HO0.out, HB0.out⟩
    case round =>
      obtain ⟨s, hs, rfl, hO, hb⟩ := hrel
      obtain ⟨wo, rfl⟩ : ∃ x, x = wr := ⟨_, rfl⟩
      have HO := Lib.hid hO
      have HB := Lib.hid hb
      clear hO hb HO0 HB0
      by_cases hlt : s < N
      · have hsi : (s : Int) < (N : Int) := by omega
        have HO2 : Hid (OwnM wo w.heap.size (.slice a2 N cap2) (M.mk N N (fun i k => if i < s ∨ (i = s ∧ k < 0) then M.partF R l i k else -1000000000000000))) :=
          (congrArg (OwnM _ _ _) (M.mk_congr fun i _ j _ => by
            by_cases e : i < s
            · rw [if_pos e, if_pos (.inl e)]
            · rw [if_neg e, if_neg (by omega)])).mp HO.out
        go_wp2
        go_loopw [7] (fun j wr => ∃ t : Nat, t ≤ N ∧ j = .int .i64 t ∧ OwnM wr w.heap.size (.slice a2 N cap2) (M.mk N N (fun i k => if i < s ∨ (i = s ∧ k < t) then M.partF R l i k else -1000000000000000)) ∧ Below w.heap.size w wr) (fun j _ => N - (intOf j).toNat)
        case atStart => exact ⟨0, Nat.zero_le _, rfl, HO2.out, HB.out⟩
        case round =>
          obtain ⟨t, ht, rfl, hO, hb⟩ := hrel
          have HOi := Lib.hid hO
          have HBi := Lib.hid hb
          clear hO hb HO2 HB HO
          by_cases htl : t < N
          · have hti : (t : Int) < (N : Int) := by omega
            obtain ⟨g, q, L3, c3, x3, hga, hg3, hq3, hL3, hx3, c31, c32, f31, ho3⟩ := HOi.out.at s t hlt (by rw [M.mk_rowlen _ _ _ _ hlt]; exact htl)
            rw [M.mk_rowlen _ _ _ _ hlt] at hL3
            subst hL3
            subst hga
            obtain ⟨u, eu, hu⟩ := HNd.out s hlt
            obtain ⟨v, ev, hv⟩ := HNd.out t htl
            obtain ⟨gb, go, q2, o2, cc, x4, hgb, h1, hx4, h2⟩ := dp_row (HA.out.below HBi.out) hu hv (HLen.out u hu)
            subst hgb
            obtain ⟨d1, d2, y1, hd, -, hy1, cy1⟩ := (HI.out.below HBi.out).at s hlt
            obtain ⟨d3, d4, y2, hd2, -, hy2, cy2⟩ := (HI.out.below HBi.out).at t htl
            subst hd
            injection hd2 with hd2
            injection hd2 with e1 e2
            subst e1 e2
            rw [eu] at hy1
            rw [ev] at hy2
            subst hy1 hy2
            have hui : (u : Int) < (n : Int) := by omega
            have hvi : (v : Int) < (n : Int) := by omega
            have hpf : M.partF R l s t = x4 := by
              unfold M.partF
              rw [eu, ev, Int.toNat_natCast, Int.toNat_natCast]
              exact hx4.symm
            have HN : Hid (OwnM (wr.setCell ⟨q, t, none⟩ (.int .i64 x4)) w.heap.size (.slice (some ⟨g, 0, none⟩) L3 cap2) (M.mk L3 L3 (fun i k => if i < s ∨ (i = s ∧ k < t + 1) then M.partF R l i k else -1000000000000000))) := by
              refine (congrArg (OwnM _ _ _) ?_).mp (ho3 x4)
              rw [M.mk_set _ _ _ _ _ _ hlt]
              refine M.mk_congr fun i _ k _ => ?_
              by_cases e : i = s
              · subst e
                rw [if_pos rfl]
                by_cases e2 : k = t
                · subst e2; rw [if_pos rfl, if_pos (.inr ⟨rfl, by omega⟩), hpf]
                · rw [if_neg e2]
                  by_cases e3 : k < t
                  · rw [if_pos (.inr ⟨rfl, e3⟩), if_pos (.inr ⟨rfl, by omega⟩)]
                  · rw [if_neg (by omega), if_neg (by omega)]
              · rw [if_neg e]
                by_cases e3 : i < s ∨ (i = s ∧ k < t)
                · rw [if_pos e3, if_pos (by omega)]
                · rw [if_neg e3, if_neg (by omega)]
            clear ho3 hx3 hx4 eu ev hpf
            go_wp2
            go_still_tail 19, (by kernel_rfl)
            change wpList _ _ _ _ _ wr.drew
            go_wp2
            first
              | exact ⟨⟨t + 1, by omega, by go_num, HN.out.keep (fun _ _ _ => rfl), HBi.out.drew.setCell hq3 _⟩, by simp [intOf]; omega⟩
              | (go_roundw
                 case rel => exact ⟨t + 1, by omega, by go_num, HN.out.keep (fun _ _ _ => rfl), HBi.out.drew.setCell hq3 _⟩
                 case measure => simp [intOf]; omega)
          · obtain rfl : N = t := by omega
            have HO2 : Hid (OwnM wr w.heap.size (.slice a2 N cap2) (M.mk N N (fun i k => if i < s + 1 then M.partF R l i k else -1000000000000000))) :=
              (congrArg (OwnM _ _ _) (M.mk_congr fun i hi j hj => by
                by_cases e : i < s + 1
                · rw [if_pos e, if_pos (by omega)]
                · rw [if_neg e, if_neg (by omega)])).mp HOi.out
            go_wp2
            go_roundw
            case rel => exact ⟨s + 1, by omega, by go_num, HO2.out, HBi.out⟩
            case measure => simp [intOf]; omega
      · obtain rfl : N = s := by omega
        have HO2 : Hid (OwnM wo w.heap.size (.slice a2 N cap2) (M.partQ R l)) := by
          show OwnM _ _ _ _
          rw [HPq.out]
          exact (congrArg (OwnM _ _ _) (M.mk_congr fun i hi j _ => by rw [if_pos hi])).mp HO.out
        go_wp2_with fail
        refine (sTop10 _ _ _ (M.partQ R l) _ HO2.out.mat HSq.out).mono ?_
        rintro e w2 ⟨rfl, hb⟩
        have HB2 := Lib.hid (bnext HB.out hb)
        clear hb
        go_wp2
        go_ret
        exact ⟨rfl, HB2.out⟩
end V
end Go.Proofs.Ytmobcobdpemlnaa

namespace Go.Proofs.Ytmobcobdpemlnaa
namespace V
set_option maxRecDepth 100000
open Go.RowKit
set_option maxRecDepth 100000 in
set_option maxHeartbeats 4000000 in
theorem sPrincipalPermanent (a : Option Addr) (n cap : Nat) (R : List (List Int)) (a' : Option Addr) (N cap' : Nat) (l : List Int) (w : World) (h : Mat w a n R) (h' : Ints .i64 w a' N l) :
    Calls Try.prog 26 #[.slice a n cap, .slice a' N cap'] w fun e w' => e = .returned (.tuple #[.int .i64 (M.prinRes R l).1, .int .i64 (M.prinRes R l).2]) ∧ Below w.heap.size w w' := by
  have HA := Lib.hid h
  have HI := Lib.hid h'
  by_cases hs : M.sqB R = true
  · have HS := Lib.hid hs
    have hn1 : R.length = n := h.1
    have hlN : l.length = N := h'.1
    have hn10 : n ≤ 10 := by have := (M.isMat_t (M.sqB_t hs).1).2.1; omega
    have HNo : Hid (∀ i, i < N → ¬ M.stepOk n l i → M.prinRes R l = (0, 2)) := fun i hi q => by
      unfold M.prinRes
      rw [if_pos hs, hn1, M.prin_no (by omega) q]; rfl
    have HYes : Hid ((∀ i, i < N → M.stepOk n l i) → M.ndsB n l = true ∧ N ≤ 10 ∧ M.prinRes R l = M.chk (M.perm (M.partQ R l)).1) := fun q => by
      have q' : ∀ i, i < l.length → M.stepOk n l i := fun i hi => q i (by omega)
      obtain ⟨p1, p2⟩ := M.prin_ok q'
      refine ⟨p1, by have := M.prin_len q'; omega, ?_⟩
      unfold M.prinRes
      rw [if_pos hs, hn1, p1, p2]; rfl
    have hNm : N ≤ maxLen := h'.2.1
    unfold maxLen at hNm
    clear h h' hs hn1 hlN
    go_enter Try.func26, Try.ntmps26
    go_wp2_with fail
    refine (sSquare_b _ _ _ R _ true HS.out HA.out).mono ?_
    rintro e w' ⟨rfl, qd, rfl⟩
    go_wp2
    go_loopw [6] (fun i wr => ∃ s : Nat, s ≤ N ∧ i = .int .i64 s ∧ Hid (∀ i, i < s → M.stepOk n l i) ∧ ∃ qd, wr = w.drewN qd) (fun i _ => N - (intOf i).toNat)
    case atStart => exact ⟨0, Nat.zero_le _, rfl, fun i hi => absurd hi (Nat.not_lt_zero i), _, rfl⟩
    case round =>
      obtain ⟨s, hs, rfl, HK, qe, rfl⟩ := hrel
      by_cases hlt : s < N
      · have hsi : (s : Int) < (N : Int) := by omega
        obtain ⟨d1, d2, x, rfl, hwx, hx, cx⟩ := HI.out.at s hlt
        obtain ⟨b, hb⟩ : ∃ b, b = M.inN n x := ⟨_, rfl⟩
        have HC : Hid (∀ w, Calls Try.prog 72 #[.slice a n cap, .int .i64 x] w fun e w' => e = .returned (.bool b) ∧ w = w') := fun w => by rw [hb]; exact sNode a n cap x w (by omega)
        have HX := Lib.hid hx
        have HBb := Lib.hid hb
        clear hx hb
        cases b with
        | false =>
          have HE := Lib.hid (HNo.out s hlt (fun q => by have := q.1; rw [← HX.out, ← HBb.out] at this; cases this))
          go_wp2
          go_quiet ((go_at_call 72; first | exact q_one_s (HC.out _) | exact q_more_s (HC.out _)))
          go_wp2
          go_ret2
          exact ⟨ret10 HE.out, by first | exact b_draws w _ | exact below_drewN (b_draws w _) _⟩
        | true =>
          by_cases h0 : s = 0
          · have HK2 : Hid (∀ i, i < s + 1 → M.stepOk n l i) := fun i hi => by
              have e : i = 0 := by omega
              subst e
              have := HX.out
              rw [h0] at this
              exact ⟨by rw [← this]; exact HBb.out.symm, fun q => absurd q (Nat.lt_irrefl _)⟩
            subst h0
            have cx0 : w.cell? ⟨d1, d2, none⟩ = some (.int .i64 x) := by simpa using cx
            go_wp2
            go_quiet ((go_at_call 72; first | exact q_one_s (HC.out _) | exact q_more_s (HC.out _)))
            go_wp2
            go_roundw
            case rel => exact ⟨0 + 1, by omega, by go_num, HK2, _, by first | rfl | exact World.drewN_drewN _ _ _⟩
            case measure => simp [intOf]; omega
          · have hs0 : (0 : Int) < (s : Int) := by omega
            have hs0n : 0 < s := by omega
            have hs0d : decide (0 < s) = true := decide_eq_true hs0n
            obtain ⟨p, hp⟩ : ∃ p, s = p + 1 := ⟨s - 1, by omega⟩
            have hpN : p < N := by omega
            have hpi : (p : Int) < (N : Int) := by omega
            obtain ⟨d3, d4, y, hd, -, hy, cy⟩ := HI.out.at p hpN
            injection hd with hd
            injection hd with e1 e2
            subst e1 e2
            have hsp : wrap64 ((s : Int) - 1) = (p : Int) := by rw [IntWalk.wrap64_in _ ⟨by omega, by omega⟩]; omega
            have hsp2 : IntKind.i64.wrap ((s : Int) - 1) = (p : Int) := by rw [IntWalk.i64_left]; exact hsp
            have HY := Lib.hid hy
            have HP := Lib.hid hp
            clear hy hp
            by_cases hle : x ≤ y
            · have hled : decide (x ≤ y) = true := decide_eq_true hle
              have HE := Lib.hid (HNo.out s hlt (fun q => by
                have h1 := q.2 (by omega)
                rw [HP.out, Nat.add_sub_cancel, ← HP.out, ← HY.out, ← HX.out] at h1
                omega))
              go_wp2
              go_quiet ((go_at_call 72; first | exact q_one_s (HC.out _) | exact q_more_s (HC.out _)))
              go_wp2
              go_ret2
              exact ⟨ret10 HE.out, by first | exact b_draws w _ | exact below_drewN (b_draws w _) _⟩
            · have hled : decide (x ≤ y) = false := decide_eq_false hle
              have HK2 : Hid (∀ i, i < s + 1 → M.stepOk n l i) := fun i hi => by
                by_cases e : i = s
                · subst e
                  refine ⟨by rw [← HX.out]; exact HBb.out.symm, fun _ => ?_⟩
                  have h1 := HP.out
                  rw [← HX.out, show i - 1 = p by omega, ← HY.out]
                  omega
                · exact HK.out i (by omega)
              go_wp2
              go_quiet ((go_at_call 72; first | exact q_one_s (HC.out _) | exact q_more_s (HC.out _)))
              go_wp2
              go_roundw
              case rel => exact ⟨s + 1, by omega, by go_num, HK2, _, by first | rfl | exact World.drewN_drewN _ _ _⟩
              case measure => simp [intOf]; omega
      · obtain rfl : N = s := by omega
        obtain ⟨p1, p2, p3⟩ := HYes.out HK.out
        have HP1 := Lib.hid p1
        have HP3 := Lib.hid p3
        obtain ⟨z, hz⟩ : ∃ z, z = (M.perm (M.partQ R l)).1 := ⟨_, rfl⟩
        have HZ := Lib.hid hz
        rw [← hz] at HP3
        obtain ⟨⟨r1, r2⟩, hr⟩ : ∃ r, r = M.chk z := ⟨_, rfl⟩
        have HR := Lib.hid hr
        rw [← hr] at HP3
        clear p1 p3 hz hr
        go_wp2_with fail
        refine (sPart10 _ _ _ R _ _ _ l _ (HA.out.below (b_draws w qe)) (HI.out.below (b_draws w qe)) HS.out HP1.out p2).mono ?_
        rintro e w1 ⟨rfl, hb⟩
        have HB := Lib.hid ((b_draws w qe).trans hb)
        rw [← HZ.out]
        clear hb
        go_wp2_with fail
        refine (sValue _ _).mono ?_
        rintro e w' ⟨rfl, rfl⟩
        rw [← HR.out]
        go_wp2
        go_ret2
        exact ⟨ret10 HP3.out, HB.out⟩
  · simp only [Bool.not_eq_true] at hs
    have HS := Lib.hid hs
    have HE : Hid (M.prinRes R l = (0, 1)) := by show _ = _; unfold M.prinRes; rw [hs]; rfl
    clear h h' hs
    go_enter Try.func26, Try.ntmps26
    go_wp2_with fail
    refine (sSquare_b _ _ _ R _ false HS.out HA.out).mono ?_
    rintro e w' ⟨rfl, qd, rfl⟩
    go_wp2
    go_ret2
    exact ⟨ret10 HE.out, b_draws w qd⟩
end V
end Go.Proofs.Ytmobcobdpemlnaa

namespace Go.Proofs.Ytmobcobdpemlnaa
namespace M
theorem nodesB_nds (n : Nat) (l : List Int) : nodesB n l = ndsB n l := by
  unfold nodesB ndsB
  congr 1
  funext x
  unfold inN
  rw [Bool.eq_iff_iff]
  simp
theorem inc_lt {l : List Int} (h : incB l = true) : ∀ k i, i + k + 1 < l.length → l.getD i 0 < l.getD (i + k + 1) 0
  | 0, i, hi => of_decide_eq_true (List.all_eq_true.1 h i (List.mem_range.2 (by omega)))
  | k + 1, i, hi => by
    have h1 := inc_lt h k i (by omega)
    have h2 := of_decide_eq_true (List.all_eq_true.1 h (i + k + 1) (List.mem_range.2 (by omega)))
    rw [show i + (k + 1) + 1 = i + k + 1 + 1 by omega]
    omega
theorem inc_t {l : List Int} (h : incB l = true) : diffB l = true ∧ srtB l = true := by
  constructor
  · refine diffB_of fun i hi => ?_
    cases e : hasB (l.take i) (l.getD i 0) with
    | false => rfl
    | true =>
      have hm := hasB_iff.1 e
      obtain ⟨j, hj, e2⟩ := List.mem_iff_getElem.1 hm
      have hj2 : j < i := by rw [List.length_take] at hj; omega
      have := inc_lt h (i - j - 1) j (by omega)
      rw [show j + (i - j - 1) + 1 = i by omega] at this
      rw [List.getElem_take] at e2
      have e3 : l.getD j 0 = l[j] := by rw [List.getD_eq_getElem?_getD, List.getElem?_eq_getElem (by omega)]; rfl
      rw [e3] at this
      omega
  · exact srtB_t fun m hm => Int.le_of_lt (of_decide_eq_true (List.all_eq_true.1 h m (List.mem_range.2 (by omega))))
theorem inc_of {l : List Int} (h1 : diffB l = true) (h2 : srtB l = true) : incB l = true := by
  unfold incB
  rw [List.all_eq_true]
  intro i hi
  have hi := List.mem_range.1 hi
  rw [decide_eq_true_iff]
  have a := of_decide_eq_true (List.all_eq_true.1 h2 i (List.mem_range.2 hi))
  have b := diffB_t h1 (i := i + 1) (by omega)
  have hne : l.getD i 0 ≠ l.getD (i + 1) 0 := fun e => by
    have : hasB (l.take (i + 1)) (l.getD (i + 1) 0) = true := by
      rw [← e]
      refine hasB_iff.2 ?_
      rw [List.getD_eq_getElem?_getD, List.getElem?_eq_getElem (by omega), Option.getD_some]
      exact List.mem_take_iff_getElem.2 ⟨i, by omega, rfl⟩
    rw [b] at this; cases this
  omega
theorem inc_len {n : Nat} {l : List Int} (h1 : ndsB n l = true) (h2 : incB l = true) : l.length ≤ n := by
  refine prin_len fun i hi => ⟨?_, fun h0 => ?_⟩
  · obtain ⟨k, e, hk⟩ := ndsB_t h1 hi
    rw [e]; unfold inN; simp; omega
  · have := inc_lt h2 0 (i - 1) (by omega)
    rw [show i - 1 + 0 + 1 = i by omega] at this
    exact this
theorem partQ_Sq {R : List (List Int)} {l : List Int} (h : Sq R) (hl : ndsB R.length l = true) (h2 : l.length ≤ 10) : Sq (partQ R l) := by
  refine ⟨by rw [partQ_len]; exact h2, fun i hi j hj => ?_⟩
  rw [partQ_len] at hi hj
  unfold partQ
  rw [ent_mk _ _ _ _ _ hi hj]
  obtain ⟨a, ea, ha⟩ := ndsB_t hl hi
  obtain ⟨b, eb, hb⟩ := ndsB_t hl hj
  unfold partF
  rw [ea, eb, Int.toNat_natCast, Int.toNat_natCast]
  exact h.2 a ha b hb
end M
namespace V
set_option maxRecDepth 100000
open Go.RowKit
theorem rect_part (R : List (List Int)) (l : List Int) {m : Nat} (hm : l.length = m) : Rect (M.partQ R l) m m := by subst hm; exact rect_mk _ _ _
set_option maxRecDepth 100000 in
set_option maxHeartbeats 1000000 in
theorem principalPermanent (a : Option Addr) (n cap : Nat) (R : List (List Int)) (a' : Option Addr) (m c' : Nat) (l : List Int) (w : World) (h : Mat w a n R) (h' : Ints .i64 w a' m l) :
    Calls Try.prog 25 #[.slice a n cap, .slice a' m c'] w fun e w' => e = .returned (.tuple #[.int .i64 (M.prinRes R l).1, .int .i64 (M.prinRes R l).2]) ∧ Below w.heap.size w w' := by
  have HA := Lib.hid h
  have HI := Lib.hid h'
  cases hs : M.sqB R with
  | false =>
    have HE : Hid (M.prinRes R l = (0, 1)) := by show _ = _; unfold M.prinRes; rw [if_neg (by rw [hs]; decide)]
    have HS := Lib.hid hs
    clear h h' hs
    go_enter Try.func25, Try.ntmps25
    go_wp2_with (go_at_call 56; refine (isSquare_b _ _ _ R _ false HS.out HA.out).mono ?_; rintro e w' ⟨rfl, rfl⟩)
    go_ret2
    rw [HE.out]
    exact ⟨rfl, Below.refl _ _⟩
  | true =>
    obtain ⟨hr, n1, n3⟩ := rect_sq hs h.1
    have hq := M.sq_is hs
    have hn := h.1
    have HS := Lib.hid hs
    have HNo : Hid ((M.ndsB n l && M.incB l) = false → M.prinRes R l = (0, 2)) := fun q => by unfold M.prinRes; rw [if_pos hs, hn, if_neg (by rw [q]; decide)]
    cases hd : M.nodesB n l with
    | false =>
      have HE : Hid (M.prinRes R l = (0, 2)) := HNo.out (by rw [← M.nodesB_nds, hd]; rfl)
      have HD := Lib.hid hd
      have hn1000 : n ≤ 1000 := by omega
      clear h h' hs hd hq hr hn n1 n3
      go_enter Try.func25, Try.ntmps25
      go_wp2_with (first | (go_at_call 56; refine (isSquare_b _ _ _ R _ true HS.out HA.out).mono ?_; rintro e w' ⟨rfl, rfl⟩) | (go_at_call 69; refine (areNodes_b _ n _ _ _ _ l _ false HD.out hn1000 HI.out).mono ?_; rintro e w' ⟨rfl, rfl⟩))
      go_ret2
      rw [HE.out]
      exact ⟨rfl, Below.refl _ _⟩
    | true =>
      have hn1000 : n ≤ 1000 := by omega
      have HD := Lib.hid hd
      have hnd : M.ndsB n l = true := by rw [← M.nodesB_nds]; exact hd
      cases hf : M.diffB l with
      | false =>
        have HE : Hid (M.prinRes R l = (0, 2)) := HNo.out (by
          cases e : M.incB l with
          | false => simp
          | true => rw [(M.inc_t e).1] at hf; cases hf)
        have HC : ∀ w, Ints .i64 w a' m l → Calls Try.prog 70 #[.slice a' m c'] w fun e w' => e = .returned (.bool false) ∧ Below w.heap.size w w' := fun w hI => by have := areDifferent n a' m c' l w hI hd n3; rw [hf] at this; exact this
        have HC := Lib.hid HC
        clear h h' hs hd hq hr hn n1 n3 hf hnd
        go_enter Try.func25, Try.ntmps25
        go_wp2_with (first | (go_at_call 56; refine (isSquare_b _ _ _ R _ true HS.out HA.out).mono ?_; rintro e w' ⟨rfl, rfl⟩) | (go_at_call 69; refine (areNodes_b _ n _ _ _ _ l _ true HD.out hn1000 HI.out).mono ?_; rintro e w' ⟨rfl, rfl⟩) | (go_at_call 70; refine (HC.out _ HI.out).mono ?_; rintro e w1 ⟨rfl, hb⟩; have HB := Lib.hid hb; clear hb))
        go_ret2
        rw [HE.out]
        exact ⟨rfl, HB.out⟩
      | true =>
        have HC : ∀ w, Ints .i64 w a' m l → Calls Try.prog 70 #[.slice a' m c'] w fun e w' => e = .returned (.bool true) ∧ Below w.heap.size w w' := fun w hI => by have := areDifferent n a' m c' l w hI hd n3; rw [hf] at this; exact this
        have HC := Lib.hid HC
        cases ht : M.srtB l with
        | false =>
          have HE : Hid (M.prinRes R l = (0, 2)) := HNo.out (by
            cases e : M.incB l with
            | false => simp
            | true => rw [(M.inc_t e).2] at ht; cases ht)
          have HT : ∀ w, Ints .i64 w a' m l → Calls Try.prog 71 #[.slice a' m c'] w fun e w' => e = .returned (.bool false) ∧ ∃ q, w' = w.drewN q := fun w hI => by have := isSorted a' m c' l w hI; rw [ht] at this; exact this
          have HT := Lib.hid HT
          clear h h' hs hd hq hr hn n1 n3 hf ht hnd
          go_enter Try.func25, Try.ntmps25
          go_wp2_with (first | (go_at_call 56; refine (isSquare_b _ _ _ R _ true HS.out HA.out).mono ?_; rintro e w' ⟨rfl, rfl⟩) | (go_at_call 69; refine (areNodes_b _ n _ _ _ _ l _ true HD.out hn1000 HI.out).mono ?_; rintro e w' ⟨rfl, rfl⟩) | (go_at_call 70; refine (HC.out _ HI.out).mono ?_; rintro e w1 ⟨rfl, hb⟩; have HB := Lib.hid hb; clear hb) | (go_at_call 71; refine (HT.out _ (HI.out.below HB.out)).mono ?_; rintro e w2 ⟨rfl, qd, rfl⟩))
          go_ret2
          rw [HE.out]
          exact ⟨rfl, below_drewN HB.out qd⟩
        | true =>
          have hinc := M.inc_of hf ht
          have hm : l.length = m := h'.1
          have hm10 : m ≤ 10 := by have := M.inc_len hnd hinc; omega
          have HE : Hid (M.prinRes R l = M.chk (M.perm (M.partQ R l)).1) := by show _ = _; unfold M.prinRes; rw [if_pos hs, hn, if_pos (by rw [hnd, hinc]; rfl)]
          have HT : ∀ w, Ints .i64 w a' m l → Calls Try.prog 71 #[.slice a' m c'] w fun e w' => e = .returned (.bool true) ∧ ∃ q, w' = w.drewN q := fun w hI => by have := isSorted a' m c' l w hI; rw [ht] at this; exact this
          have HT := Lib.hid HT
          have HR := Lib.hid hr
          have HNd := Lib.hid hnd
          have HRp : Hid (Rect (M.partQ R l) m m) := rect_part R l hm
          have HQp : Hid (M.Sq (M.partQ R l)) := M.partQ_Sq hq (by rw [hn]; exact hnd) (by rw [hm]; exact hm10)
          have hfl := fun w => fldT w (M.perm (M.partQ R l)).1 (M.perm (M.partQ R l)).2
          clear h h' hs hd hq hr hn n1 n3 hf ht hnd hinc hm
          go_enter Try.func25, Try.ntmps25
          go_wp2_with (first | (go_at_call 56; refine (isSquare_b _ _ _ R _ true HS.out HA.out).mono ?_; rintro e w' ⟨rfl, rfl⟩) | (go_at_call 69; refine (areNodes_b _ n _ _ _ _ l _ true HD.out hn1000 HI.out).mono ?_; rintro e w' ⟨rfl, rfl⟩) | (go_at_call 70; refine (HC.out _ HI.out).mono ?_; rintro e w1 ⟨rfl, hb⟩; have HB := Lib.hid hb; clear hb) | (go_at_call 71; refine (HT.out _ (HI.out.below HB.out)).mono ?_; rintro e w2 ⟨rfl, qd, rfl⟩))
          have hB2 := below_drewN HB.out qd
          have HB2 := Lib.hid hB2
          refine (partOf _ n _ R _ m _ l _ (HA.out.below hB2) HR.out (HI.out.below hB2) hm10 HNd.out).mono ?_
          rintro e w3 ⟨a3, c3, rfl, ho3, hb3⟩
          have HA3 := Lib.hid ho3.mat
          have HB3 := Lib.hid (HB2.out.trans (hb3.mono HB2.out.size))
          clear ho3 hb3 hB2
          go_wp2_with fail
          refine (fullTally _ m _ (M.partQ R l) _ HA3.out HRp.out HQp.out).mono ?_
          rintro e w4 ⟨rfl, hb4⟩
          have HB4 := Lib.hid (HB3.out.trans (hb4.mono HB3.out.size))
          clear hb4
          go_wp2_with (go_at_call 61; refine (checked _ _).mono ?_; rintro e w' ⟨rfl, rfl⟩)
          go_ret2
          rw [HE.out]
          exact ⟨rfl, HB4.out⟩
end V
end Go.Proofs.Ytmobcobdpemlnaa

namespace Go.Proofs.Ytmobcobdpemlnaa
namespace M
theorem charL_set {R : List (List Int)} {k d : Nat} {x z : Int} (hd : d = R.length - pc R.length k) (hx : x = (charL R k).getD d 0) (hz : z = (perm (partQ R (setL R.length k))).1) : (charL R k).set d (max x z) = charL R (k + 1) := by
  subst hd hx hz; rfl
end M
namespace V
set_option maxRecDepth 100000
open Go.RowKit
set_option maxRecDepth 100000 in
set_option maxHeartbeats 4000000 in
theorem sCharPolynomial (a : Option Addr) (n cap : Nat) (R : List (List Int)) (w : World) (h : Mat w a n R) :
    Calls Try.prog 23 #[.slice a n cap] w (VRes (M.charRes R) w) := by
  have HA := Lib.hid h
  by_cases hs : M.sqB R = true
  · have HS := Lib.hid hs
    have hn1 : R.length = n := h.1
    have hn10 : n ≤ 10 := by have := (M.isMat_t (M.sqB_t hs).1).2.1; omega
    have HCl : Hid (∀ k, (M.charL R k).length = n + 1) := fun k => by rw [M.charL_len, hn1]
    have HC0 : Hid (M.mk 1 (n + 1) (fun _ _ => -1000000000000000) = [M.charL R 0]) := by
      show _ = _
      unfold M.mk
      rw [M.charL, hn1]
      simp [List.map_const']
    have HCs : Hid (∀ k d x z, d = n - M.pc n k → x = (M.charL R k).getD d 0 → z = (M.perm (M.partQ R (M.setL n k))).1 → (M.charL R k).set d (max x z) = M.charL R (k + 1)) := fun k d x z q1 q2 q3 => M.charL_set (by rw [hn1]; exact q1) q2 (by rw [hn1]; exact q3)
    have HEt : Hid (M.isPoly (M.charL R (2 ^ n)) = true → M.charRes R = (M.charL R (2 ^ n), 0)) := fun q => by unfold M.charRes; rw [if_pos hs, hn1, if_pos q]
    have HEf : Hid (M.isPoly (M.charL R (2 ^ n)) = false → M.charRes R = ([], 3)) := fun q => by unfold M.charRes; rw [if_pos hs, hn1, if_neg (by rw [q]; exact Bool.false_ne_true)]
    have hN1 := two_pow_le hn10
    have hEN := wrap_pow hn10
    have hN2 : 1 ≤ 2 ^ n := Nat.two_pow_pos n
    obtain ⟨N, hN⟩ : ∃ N, N = 2 ^ n := ⟨_, rfl⟩
    rw [← hN] at hN1 hN2 hEN HEt HEf
    have E1 : Hid ((n : Int) + 1 = ((n + 1 : Nat) : Int)) := by show _ = _; omega
    clear h hs hn1 hN
    go_enter Try.func23, Try.ntmps23
    go_wp2_with fail
    refine (sSquare_b _ _ _ R _ true HS.out HA.out).mono ?_
    rintro e w' ⟨rfl, qd, rfl⟩
    go_wp2_with fail
    rw [E1.out]
    refine (sBottom 1 (n + 1) _ (by omega) (by omega)).mono ?_
    rintro e w1 ⟨a2, cap2, rfl, ho, hb⟩
    have ho : OwnM w1 w.heap.size (.slice a2 1 cap2) (M.mk 1 (n + 1) (fun _ _ => -1000000000000000)) := ho.mono (b_draws w qd).size
    rw [HC0.out] at ho
    obtain ⟨g0, ra, rc, rfl, hcr, hro⟩ := ho.row0 (by omega)
    have hl0 : ([M.charL R 0].getD 0 []).length = n + 1 := HCl.out 0
    rw [hl0] at hcr hro
    have hro : Own w1 w.heap.size (.slice ra (n + 1) rc) (M.charL R 0) := hro
    obtain ⟨ob, oc, hov, -, -, hog⟩ := own_form hro
    injection hov with q1 q2 q3
    subst q1 q3
    rw [HCl.out 0] at hog
    obtain ⟨g1, rfl, hg1, -⟩ := hog (by omega)
    have HO := Lib.hid hro
    have HB := Lib.hid ((b_draws w qd).trans hb)
    have hsz1 : w.heap.size ≤ w1.heap.size := HB.out.size
    clear ho hb hro hl0 q2
    go_wp2
    try simp only [hEN]
    go_loopw [6] (fun set wr => ∃ k : Nat, k ≤ N ∧ set = .int .i64 k ∧ Hid (Own wr w.heap.size (.slice (some ⟨g1, 0, none⟩) (n + 1) rc) (M.charL R k)) ∧ Hid (Below w.heap.size w wr)) (fun set _ => N - (intOf set).toNat)
    case atStart => exact ⟨0, Nat.zero_le _, rfl, HO, HB⟩
    case round =>
      obtain ⟨k, hk, rfl, HOk, HBk⟩ := hrel
      obtain ⟨wo, rfl⟩ : ∃ x, x = wr := ⟨_, rfl⟩
      clear HO HB
      have hszo : w.heap.size ≤ wo.heap.size := HBk.out.size
      have hg1o : g1 < wo.heap.size := (own_lt HOk.out (k := g1) (by simp [Value.ownBlock])).2
      by_cases hkl : k < N
      · have hki : (k : Int) < (N : Int) := by omega
        have hk1024 : k ≤ 1024 := by omega
        go_wp2
        try simp only [hEN]
        go_loopw [7, 8] (fun nodes v wr => ∃ (t m : Nat) (b : Option Addr) (c : Nat), t ≤ n ∧ m ≤ t ∧ v = .int .i64 t ∧ nodes = .slice b m c ∧ Hid (m = M.pc t k) ∧ Hid (Own wr wo.heap.size (.slice b m c) (M.setL t k)) ∧ Hid (Below wo.heap.size wo wr)) (fun _ v _ => n - (intOf v).toNat)
        case atStart => exact ⟨0, 0, _, _, Nat.zero_le _, Nat.le_refl _, rfl, rfl, rfl, own_lit0 wo _ (Nat.le_refl _), b_alloc _ _⟩
        case round =>
          obtain ⟨t, m, b, c, ht, hmt, rfl, rfl, HM, HOm, HBm⟩ := hrel
          obtain ⟨wi, rfl⟩ : ∃ x, x = wr := ⟨_, rfl⟩
          have hszi : wo.heap.size ≤ wi.heap.size := HBm.out.size
          by_cases htl : t < n
          · have hti : (t : Int) < (n : Int) := by omega
            have hbt := bit_at (s := k) (j := t) hk1024
            by_cases hb : k.testBit t = true
            · rw [if_pos hb] at hbt
              have HLm : Hid ((M.setL t k).length = m) := by show _ = _; rw [M.setL_len, HM.out]
              have HNx : Hid (M.setL t k ++ [(t : Int)] = M.setL (t + 1) k) := by show _ = _; rw [M.setL_next, if_pos hb]
              have HM2 : Hid (m + 1 = M.pc (t + 1) k) := by show _ = _; unfold M.pc; rw [if_pos hb, ← HM.out]
              clear hb
              go_wp2_with (at_builtin; refine append1 _ rfl (.tmp 38) (.tmp 40) rfl wo.heap.size _ _ _ m HLm.out rfl HOm.out rfl (by rw [HLm.out]; omega) hszi ?_)
              intro b4 c4 w4 hO hb4 _
              rw [HNx.out] at hO
              have HO4 := Lib.hid hO
              have HB4 := Lib.hid (HBm.out.trans hb4)
              clear hO hb4
              go_wp2
              go_roundw
              case rel => exact ⟨t + 1, m + 1, _, _, by omega, by omega, by go_num, rfl, HM2, HO4, HB4⟩
              case measure => simp [intOf]; omega
            · rw [if_neg hb] at hbt
              have HNx : Hid (M.setL (t + 1) k = M.setL t k) := by show _ = _; rw [M.setL_next, if_neg hb]
              have HM2 : Hid (m = M.pc (t + 1) k) := by show _ = _; unfold M.pc; rw [if_neg hb]; exact HM.out
              have HO4 : Hid (Own wi wo.heap.size (.slice b m c) (M.setL (t + 1) k)) := by show Own _ _ _ _; rw [HNx.out]; exact HOm.out
              clear hb
              go_wp2
              go_roundw
              case rel => exact ⟨t + 1, m, _, _, by omega, by omega, by go_num, rfl, HM2, HO4, HBm⟩
              case measure => simp [intOf]; omega
          · obtain rfl : n = t := by omega
            have hmn : m ≤ n := hmt
            obtain ⟨d, hd⟩ : ∃ d, d = n - m := ⟨_, rfl⟩
            have hd1 : d < n + 1 := by omega
            have hdi : (d : Int) < ((n + 1 : Nat) : Int) := by omega
            have hsub : wrap64 ((n : Int) - (m : Int)) = (d : Int) := by rw [IntWalk.wrap64_in _ ⟨by omega, by omega⟩]; omega
            have hsub2 : IntKind.i64.wrap ((n : Int) - (m : Int)) = (d : Int) := by rw [IntWalk.i64_left]; exact hsub
            obtain ⟨x, hx⟩ : ∃ x, x = (M.charL R k).getD d 0 := ⟨_, rfl⟩
            obtain ⟨z, hz⟩ : ∃ z, z = (M.perm (M.partQ R (M.setL n k))).1 := ⟨_, rfl⟩
            have HOi : Hid (Own wi w.heap.size (.slice (some ⟨g1, 0, none⟩) (n + 1) rc) (M.charL R k)) := HOk.out.below HBm.out
            have HBi : Hid (Below w.heap.size w wi) := Lib.hid (HBk.out.trans (HBm.out.mono hszo))
            have hcl := HOi.out.cellAt d hd1
            have hfz := HOi.out.frozenAt d
            rw [← hx] at hcl
            have hg1i : g1 < wi.heap.size := by omega
            have hdd : Hid (d = n - M.pc n k) := by show _ = _; rw [hd, HM.out]
            have HX := Lib.hid hx
            have HZ := Lib.hid hz
            have HNext : Hid ((M.charL R k).set d (max x z) = M.charL R (k + 1)) := HCs.out k d x z hdd.out hx hz
            have HAi : Hid (Mat wi a n R) := HA.out.below HBi.out
            clear hx hz hd
            rcases Int.lt_or_le x z with hxz | hxz
            · have hmx : max x z = z := by omega
              go_wp2
              go_region_with (first | (go_at_call 66; refine (sPart10 _ _ _ R _ _ _ (M.setL n k) _ (HAi.out.below (b_draws wi 1)) (HOm.out.ints'.below (b_draws wi 1)) HS.out (M.setL_nds n k) (by omega)).mono ?_; rintro e wx ⟨rfl, hb⟩; rw [← HZ.out]; have HBx := Lib.hid hb; have hclx := (hb.cell (p := ⟨g1, d, none⟩) hg1i).trans hcl; have hfx : wx.frozen? ⟨g1, d, none⟩ = false := (World.frozen?_of_block (hb.block g1 hg1i)).trans hfz; clear hb))
              all_goals
                have HN : Hid (Own (wx.setCell ⟨g1, d, none⟩ (.int .i64 z)) w.heap.size (.slice (some ⟨g1, 0, none⟩) (n + 1) rc) (M.charL R (k + 1))) := by
                  show Own _ _ _ _
                  rw [← HNext.out, hmx]
                  exact (HOi.out.keep (w' := wx) (fun q _ q2 => (HBx.out.block q q2))).set d _
                have HBN : Hid (Below w.heap.size w (wx.setCell ⟨g1, d, none⟩ (.int .i64 z))) := Lib.hid ((HBi.out.trans ((b_draws wi 1).trans HBx.out |>.mono HBi.out.size)).setCell (by show w.heap.size ≤ g1; omega) _)
                go_wp2
                go_roundw
                case rel => exact ⟨k + 1, by omega, by go_num, HN, HBN⟩
                case measure => simp [intOf]; omega
            · have hmx : max x z = x := by omega
              have hxz2 : ¬ x < z := by omega
              go_wp2
              go_region_with (first | (go_at_call 66; refine (sPart10 _ _ _ R _ _ _ (M.setL n k) _ (HAi.out.below (b_draws wi 1)) (HOm.out.ints'.below (b_draws wi 1)) HS.out (M.setL_nds n k) (by omega)).mono ?_; rintro e wx ⟨rfl, hb⟩; rw [← HZ.out]; have HBx := Lib.hid hb; have hclx := (hb.cell (p := ⟨g1, d, none⟩) hg1i).trans hcl; have hfx : wx.frozen? ⟨g1, d, none⟩ = false := (World.frozen?_of_block (hb.block g1 hg1i)).trans hfz; clear hb))
              all_goals
                have HN : Hid (Own (wx.setCell ⟨g1, d, none⟩ (.int .i64 x)) w.heap.size (.slice (some ⟨g1, 0, none⟩) (n + 1) rc) (M.charL R (k + 1))) := by
                  show Own _ _ _ _
                  rw [← HNext.out, hmx]
                  exact (HOi.out.keep (w' := wx) (fun q _ q2 => (HBx.out.block q q2))).set d _
                have HBN : Hid (Below w.heap.size w (wx.setCell ⟨g1, d, none⟩ (.int .i64 x))) := Lib.hid ((HBi.out.trans ((b_draws wi 1).trans HBx.out |>.mono HBi.out.size)).setCell (by show w.heap.size ≤ g1; omega) _)
                go_wp2
                go_roundw
                case rel => exact ⟨k + 1, by omega, by go_num, HN, HBN⟩
                case measure => simp [intOf]; omega
      · obtain rfl : N = k := by omega
        obtain ⟨z, hz⟩ : ∃ z, z = M.isPoly (M.charL R N) := ⟨_, rfl⟩
        have HZ := Lib.hid hz.symm
        clear hz
        cases z with
        | true =>
          have HE := Lib.hid (HEt.out HZ.out)
          go_wp2_with fail
          refine (sIsPolynomial_b _ _ _ (M.charL R N) _ true HZ.out HOk.out.ints').mono ?_
          rintro e w' ⟨rfl, rfl⟩
          go_wp2
          go_ret2
          rw [HE.out]
          exact ⟨_, _, _, rfl, HOk.out, HBk.out⟩
        | false =>
          have HE := Lib.hid (HEf.out HZ.out)
          go_wp2_with fail
          refine (sIsPolynomial_b _ _ _ (M.charL R N) _ false HZ.out HOk.out.ints').mono ?_
          rintro e w' ⟨rfl, rfl⟩
          go_wp2
          go_ret2
          exact VRes.nil HE.out HBk.out
  · simp only [Bool.not_eq_true] at hs
    have HS := Lib.hid hs
    have HE : Hid (M.charRes R = ([], 1)) := by show _ = _; unfold M.charRes; rw [hs]; rfl
    clear h hs
    go_enter Try.func23, Try.ntmps23
    go_wp2_with fail
    refine (sSquare_b _ _ _ R _ false HS.out HA.out).mono ?_
    rintro e w' ⟨rfl, qd, rfl⟩
    go_wp2
    go_ret2
    exact VRes.nil HE.out (b_draws w qd)
end V
end Go.Proofs.Ytmobcobdpemlnaa

namespace Go.Proofs.Ytmobcobdpemlnaa
namespace M
theorem charL_next {R : List (List Int)} {n k : Nat} (hn : R.length = n) (hk : k < 2 ^ n) (h10 : n ≤ 10) : charL R (k + 1) = (charL R k).set (n - (setL 10 k).length) (max ((charL R k).getD (n - (setL 10 k).length) 0) (perm (partQ R (setL 10 k))).1) := by
  rw [setL_ten hk h10, setL_len, charL, hn]
theorem charL_first {R : List (List Int)} {n : Nat} (hn : R.length = n) : charL R 0 = (List.range (n + 1)).map fun _ => -1000000000000000 := by
  rw [charL, hn]
  simp [List.map_const']
theorem charL_get {R : List (List Int)} {n d : Nat} (hn : R.length = n) : ∀ k, (charL R k).length = n + 1 := fun k => by rw [charL_len, hn]
theorem charRes_len (R : List (List Int)) : (charRes R).1.length ≤ 12 := by
  unfold charRes
  cases hs : sqB R with
  | false => simp
  | true =>
    have h1 := (sq_is hs).1
    cases h2 : isPoly (charL R (2 ^ R.length)) with
    | false => simp
    | true => simp [charL_len]; omega
end M
namespace V
set_option maxRecDepth 100000
open Go.RowKit
set_option maxRecDepth 100000 in
set_option maxHeartbeats 4000000 in
theorem charPolynomial (a : Option Addr) (n cap : Nat) (R : List (List Int)) (w : World) (h : Mat w a n R) :
    Calls Try.prog 22 #[.slice a n cap] w (VRes (M.charRes R) w) := by
  have HA := Lib.hid h
  cases hs : M.sqB R with
  | false =>
    have HE : Hid (M.charRes R = ([], 1)) := by show _ = _; unfold M.charRes; rw [if_neg (by rw [hs]; decide)]
    have HS := Lib.hid hs
    clear h hs
    go_enter Try.func22, Try.ntmps22
    go_wp2_with (go_at_call 56; refine (isSquare_b _ _ _ R _ false HS.out HA.out).mono ?_; rintro e w' ⟨rfl, rfl⟩)
    go_ret2
    exact VRes.nil HE.out (Below.refl _ _)
  | true =>
    obtain ⟨hr, n1, n3⟩ := rect_sq hs h.1
    have hq := M.sq_is hs
    have hn := h.1
    have HS := Lib.hid hs
    have HR := Lib.hid hr
    have HQ := Lib.hid hq
    have HEt : Hid (M.isPoly (M.charL R (2 ^ n)) = true → M.charRes R = (M.charL R (2 ^ n), 0)) := fun q => by unfold M.charRes; rw [if_pos hs, hn, if_pos q]
    have HEf : Hid (M.isPoly (M.charL R (2 ^ n)) = false → M.charRes R = ([], 3)) := fun q => by unfold M.charRes; rw [if_pos hs, hn, if_neg (by rw [q]; exact Bool.false_ne_true)]
    have HCl : Hid (∀ k, (M.charL R k).length = n + 1) := fun k => by rw [M.charL_len, hn]
    have HC0 : Hid (M.charL R 0 = (List.range (n + 1)).map fun _ => -1000000000000000) := M.charL_first hn
    have hN1 := two_pow_le n3
    have HCn : Hid (∀ k, k < 2 ^ n → M.charL R (k + 1) = (M.charL R k).set (n - (M.setL 10 k).length) (max ((M.charL R k).getD (n - (M.setL 10 k).length) 0) (M.perm (M.partQ R (M.setL 10 k))).1)) := fun k hk => M.charL_next hn hk n3
    have HSl : Hid (∀ k, k < 2 ^ n → (M.setL 10 k).length ≤ n ∧ M.ndsB n (M.setL 10 k) = true ∧ M.Sq (M.partQ R (M.setL 10 k))) := fun k hk => by
      rw [M.setL_ten hk n3]
      have h1 : (M.setL n k).length ≤ n := by rw [M.setL_len]; exact M.pc_le _ _
      exact ⟨h1, M.setL_nds n k, M.partQ_Sq hq (by rw [hn]; exact M.setL_nds n k) (by omega)⟩
    have hEN := wrap_pow n3
    obtain ⟨N, hN⟩ : ∃ N, N = 2 ^ n := ⟨_, rfl⟩
    rw [← hN] at hN1 hEN HEt HEf HCn HSl
    have E1 : Hid ((n : Int) + 1 = ((n + 1 : Nat) : Int)) := by show _ = _; omega
    have hn12 : n + 1 ≤ 12 := by omega
    clear h hs hr hq hn hN
    go_enter Try.func22, Try.ntmps22
    go_wp2_with (go_at_call 56; refine (isSquare_b _ _ _ R _ true HS.out HA.out).mono ?_; rintro e w' ⟨rfl, rfl⟩)
    go_wp2_with fail
    refine (missing (n + 1) _ E1.out hn12 _).mono ?_
    rintro e w1 ⟨g, hg, rfl, ho1, hb1⟩
    rw [← HC0.out] at ho1
    have HO1 := Lib.hid ho1
    have HB1 := Lib.hid hb1
    have hsz1 := hb1.size
    clear ho1 hb1 E1
    go_wp2
    try simp only [hEN]
    go_loopw [18] (fun kv wr => ∃ k : Nat, k ≤ N ∧ kv = .int .i64 k ∧ Hid (Own wr w.heap.size (.slice (some ⟨g, 0, none⟩) (n + 1) (n + 1)) (M.charL R k)) ∧ Hid (Below w.heap.size w wr)) (fun kv _ => N - (intOf kv).toNat)
    case atStart => exact ⟨0, Nat.zero_le _, rfl, HO1, HB1⟩
    case round =>
      obtain ⟨k, hk, rfl, HO, HB⟩ := hrel
      obtain ⟨wo, rfl⟩ : ∃ x, x = wr := ⟨_, rfl⟩
      clear HO1 HB1
      by_cases hkl : k < N
      · have hki : (k : Int) < (N : Int) := by omega
        have hk1024 : k ≤ 1024 := by omega
        obtain ⟨s1, s2, s3⟩ := HSl.out k hkl
        have hCn := HCn.out k hkl
        go_wp2_with fail
        refine (numbersIn k wo hk1024).mono ?_
        rintro e w2 ⟨b2, c2, rfl, ho2, hb2⟩
        obtain ⟨l, hl⟩ : ∃ l, l = M.setL 10 k := ⟨_, rfl⟩
        rw [← hl] at s1 s2 s3 hCn ho2 ⊢
        obtain ⟨L, hL⟩ : ∃ L, L = l.length := ⟨_, rfl⟩
        rw [← hL] at s1 hCn ho2 ⊢
        have hI2 := ho2.ints'
        have hO2 := HO.out.below hb2
        have hB2 := HB.out.trans (hb2.mono HB.out.size)
        have hx := hO2.cellAt (n - L) (by omega)
        obtain ⟨x, hxe⟩ : ∃ x, x = (M.charL R k).getD (n - L) 0 := ⟨_, rfl⟩
        rw [← hxe] at hx hCn
        obtain ⟨⟨z1, z2⟩, hz⟩ : ∃ z, z = M.perm (M.partQ R l) := ⟨_, rfl⟩
        rw [← hz] at hCn
        have hP : ∀ w3, Below w2.heap.size w2 w3 → Calls Try.prog 64 #[.slice a n cap, .slice b2 L c2] w3 (MPost L (M.partQ R l) w3) := fun w3 hb3 => partOf a n cap R b2 L c2 l w3 ((HA.out.below hB2).below hb3) HR.out (hI2.below hb3) (by omega) s2
        have hF : ∀ w3 a3 c3, Mat w3 a3 L (M.partQ R l) → Calls Try.prog 60 #[.slice a3 L c3] w3 fun e w' => e = .returned (.agg #[.int .i64 z1, .int .i64 z2]) ∧ Below w3.heap.size w3 w' := fun w3 a3 c3 hM => by
          have := fullTally a3 L c3 (M.partQ R l) w3 hM (rect_part R l hL.symm) s3
          rw [← hz] at this
          exact this
        have HP := Lib.hid hP
        have HF := Lib.hid hF
        have HO2 := Lib.hid hO2
        have HB2 := Lib.hid hB2
        have HCk := Lib.hid hCn
        have hfl := fun w => fldT w z1 z2
        have hd1 : (0 : Int) ≤ (n : Int) - (L : Int) := by omega
        have hd2 : (n : Int) - (L : Int) < (n : Int) + 1 := by omega
        have hgl := cell_lt hx
        unfold MPost at HP
        clear hP hF hO2 hB2 hCn hz hxe hI2 ho2 hb2 hl hL s2 s3
        go_wp2
        go_region_with (first | (go_at_call 64; refine (HP.out _ (b_draws w2 1)).mono ?_; rintro e wx ⟨ax, cx, rfl, hox, hbx⟩; have hxx : wx.cell? ⟨g, n - L, none⟩ = some (.int .i64 x) := (hbx.cell (p := ⟨g, n - L, none⟩) hgl).trans hx; have HMt := Lib.hid hox.mat; clear hox) | (go_at_call 60; refine (HF.out _ _ _ HMt.out).mono ?_; rintro e wy ⟨rfl, hby⟩; have hb9 := (b_draws w2 1).trans (hbx.trans (hby.mono hbx.size)); have hO9 := HO2.out.below hb9; have y0 : wy.cell? ⟨g, n - L, none⟩ = some (.int .i64 x) := (hb9.cell (p := ⟨g, n - L, none⟩) hgl).trans hx; have y1 := hO9.frozenAt (n - L)))
        all_goals
          obtain ⟨y, hy⟩ : ∃ y, y = max x z1 := ⟨_, rfl⟩
          rw [← hy]
          have HN : Hid (Own (wy.setCell ⟨g, n - L, none⟩ (.int .i64 y)) w.heap.size (.slice (some ⟨g, 0, none⟩) (n + 1) (n + 1)) (M.charL R (k + 1))) := by
            rw [HCk.out, ← hy]
            exact hO9.set (n - L) y
          have HB9 : Hid (Below w.heap.size w (wy.setCell ⟨g, n - L, none⟩ (.int .i64 y))) := (HB2.out.trans (hb9.mono HB2.out.size)).setCell hg _
          clear hy
          go_wp2
          exact ⟨⟨k + 1, by omega, by go_num, HN, HB9⟩, by simp [intOf]; omega⟩
      · obtain rfl : k = N := by omega
        cases hp : M.isPoly (M.charL R k) with
        | true =>
          have HE := HEt.out hp
          have HP := Lib.hid hp
          clear hp
          go_wp2_with (go_at_call 65; refine (checkedPoly_t _ _ _ _ _ HP.out HO.out.ints').mono ?_; rintro e w' ⟨rfl, rfl⟩)
          go_ret2
          rw [HE]
          exact ⟨_, _, _, rfl, HO.out, HB.out⟩
        | false =>
          have HE := HEf.out hp
          have HP := Lib.hid hp
          clear hp
          go_wp2_with (go_at_call 65; refine (checkedPoly_f _ _ _ _ _ HP.out HO.out.ints').mono ?_; rintro e w' ⟨rfl, rfl⟩)
          go_ret2
          exact VRes.nil HE HB.out
end V
end Go.Proofs.Ytmobcobdpemlnaa

namespace Go.Proofs.Ytmobcobdpemlnaa
namespace V
set_option maxRecDepth 100000
open Go.RowKit
/-- Two lists, the second one made behind the first one, and a code. -/
def DPost (r : List Int × List Int × Int) (w : World) (e : Ending) (w' : World) : Prop :=
  ∃ (wm : World) (b1 : Option Addr) (m1 c1 : Nat) (b2 : Option Addr) (m2 c2 : Nat), e = .returned (.tuple #[.slice b1 m1 c1, .slice b2 m2 c2, .int .i64 r.2.2]) ∧ Own wm w.heap.size (.slice b1 m1 c1) r.1 ∧ Below w.heap.size w wm ∧ Own w' wm.heap.size (.slice b2 m2 c2) r.2.1 ∧ Below wm.heap.size wm w'
theorem DPost.nil {r : List Int × List Int × Int} {w w' : World} {c : Int} (h : r = ([], [], c)) (hb : Below w.heap.size w w') : DPost r w (.returned (.tuple #[.slice none 0 0, .slice none 0 0, .int .i64 c])) w' := by
  subst h
  exact ⟨w', _, _, _, _, _, _, rfl, own_nil _ _, hb, own_nil _ _, Below.refl _ _⟩
set_option maxRecDepth 100000 in
set_option maxHeartbeats 4000000 in
theorem sDualOf (a : Option Addr) (n cap : Nat) (R : List (List Int)) (w : World) (h : Mat w a n R) :
    Calls Try.prog 14 #[.slice a n cap] w (DPost (M.dualRes R) w) := by
  have HA := Lib.hid h
  by_cases hs : M.sqB R = true
  · have HS := Lib.hid hs
    by_cases hb : (M.perm R).1 = -1000000000000000
    · have HB := Lib.hid hb
      have HE : Hid (M.dualRes R = ([], [], 4)) := by show _ = _; unfold M.dualRes; rw [if_pos hs, if_pos hb]
      clear h hs hb
      go_enter Try.func14, Try.ntmps14
      go_wp2_with fail
      refine (sSquare_b _ _ _ R _ true HS.out HA.out).mono ?_
      rintro e w' ⟨rfl, qd, rfl⟩
      go_wp2_with fail
      refine (sAssignB10 _ _ _ R _ (HA.out.below (b_draws w qd)) HS.out HB.out).mono ?_
      rintro e w1 ⟨rfl, hb⟩
      have HB2 := Lib.hid ((b_draws w qd).trans hb)
      clear hb
      go_wp2
      exact bodyPost_ret (v := .tuple #[.slice none 0 0, .slice none 0 0, .int .i64 4]) (by simp [results, Try.results14, go_sem]) rfl (DPost.nil HE.out HB2.out)
    · have hq := M.sq_is hs
      have hm := M.sqB_t hs
      have HB := Lib.hid hb
      have hbst := M.bst_of hq hb
      obtain ⟨n1, n2, n3⟩ : R.length = n ∧ 1 ≤ n ∧ n ≤ 10 := ⟨h.1, by have := (M.isMat_t hm.1); rw [← h.1]; omega, by have := (M.isMat_t hm.1); rw [← h.1]; omega⟩
      have HLen : Hid (∀ i, i < n → (R.getD i []).length = n) := fun i hi => by rw [M.isMat_len hm.1 (by omega), ← hm.2, n1]
      have HSm : Hid (∀ i j, i < n → j < n → M.Sm 1000000 (M.ent R i j)) := fun i j hi hj => hq.2 i (by omega) j (by omega)
      have HCol : Hid (∀ k, k < n → M.colsP R k < n ∧ (M.asg R).getD k 0 = (M.colsP R k : Int) ∧ -1000000 ≤ M.ent R k (M.colsP R k) ∧ M.ent R k (M.colsP R k) ≤ 1000000) := fun k hk => by have := hbst.col k (by omega); rw [n1] at this; exact this
      have HU0 : Hid (∀ i, i < n → 0 ≤ (M.dualU R).getD i 0 ∧ (M.dualU R).getD i 0 ≤ 11000011000000) := fun i hi => M.dualU_nb hq hbst (by omega)
      have HSh : Hid (∀ i j, i < n → j < n → M.Sm 1000001000000 (M.relF R (M.colsP R) i j)) := fun i j hi hj => M.sm_up (hbst.sm i j (by omega) (by omega)) (by omega)
      have HNp : Hid (M.noPos (M.ent (M.mk n n (M.relF R (M.colsP R)))) n = true) := by show _ = _; rw [M.noPos_mk, ← n1]; exact hbst.noP
      have HUd : Hid (M.applyM (M.starM (M.mk n n (M.relF R (M.colsP R))) n) (M.zerosL n) = M.dualU R) := by show _ = _; unfold M.dualU M.zpot; rw [n1]
      have HVs : Hid (∀ m, M.dualV R (m + 1) = (M.dualV R m).set (M.colsP R m) (M.ent R m (M.colsP R m) - (M.dualU R).getD m 0)) := fun m => rfl
      have HVl : Hid (∀ m, (M.dualV R m).length = n) := fun m => by rw [M.dualV_len, n1]
      have HV0 : Hid (M.dualV R 0 = M.zerosL n) := by show _ = _; unfold M.dualV M.zerosL; rw [n1]
      obtain ⟨f1, f2⟩ := M.dual_fins hs hbst
      rw [n1] at f2
      have HF1 := Lib.hid f1
      have HF2 := Lib.hid f2
      have HEt : Hid (M.isVec (M.dualU R) = true → M.isVec (M.dualV R n) = true → M.dualRes R = (M.dualU R, M.dualV R n, 0)) := fun q1 q2 => by unfold M.dualRes; rw [if_pos hs, if_neg hb, n1, if_pos (by rw [q1, q2]; rfl)]
      have HEf : Hid ((M.isVec (M.dualU R) && M.isVec (M.dualV R n)) = false → M.dualRes R = ([], [], 3)) := fun q => by unfold M.dualRes; rw [if_pos hs, if_neg hb, n1, if_neg (by rw [q]; exact Bool.false_ne_true)]
      have hmk := run_make_row' (P := Try.prog) 26 2 (.int .i64 0) 8 Try.underlying26 info64 rfl .i64 .i64 n (by omega) (by omega)
      obtain ⟨zz, hzz⟩ : ∃ z, z = M.zerosL n := ⟨_, rfl⟩
      have HZd : Hid (((List.range n).map fun _ => (0 : Int)) = zz) := by show _ = _; rw [hzz]; exact M.zeros_made n
      rw [← hzz] at HUd HV0
      have HZl : Hid (zz.length = n) := by show _ = _; rw [hzz]; simp [M.zerosL]
      have HZb : Hid (∀ k, k < n → M.Big (zz.getD k 0)) := fun k _ => by rw [hzz, M.zeros_at]; exact .inr (by omega)
      clear h hs hb hq hm hbst n1 f1 f2 hzz
      go_enter Try.func14, Try.ntmps14
      go_wp2_with fail
      refine (sSquare_b _ _ _ R _ true HS.out HA.out).mono ?_
      rintro e w' ⟨rfl, qd, rfl⟩
      go_wp2_with fail
      refine (sAssign10 _ _ _ R _ (HA.out.below (b_draws w qd)) HS.out HB.out).mono ?_
      rintro e w1 ⟨pb, pc, rfl, hop, hb⟩
      have HP := Lib.hid hop.ints'
      have HB1 := Lib.hid ((b_draws w qd).trans hb)
      clear hop hb
      go_wp2_with fail
      refine (sBottom n n _ (by omega) (by omega)).mono ?_
      rintro e w2 ⟨a2, cap2, rfl, ho, hb⟩
      have HO0 : Hid (OwnM w2 w1.heap.size (.slice a2 n cap2) (M.mk n n (fun i k => if i < 0 then M.relF R (M.colsP R) i k else -1000000000000000))) :=
        (congrArg (OwnM _ _ _) (M.mk_congr fun i _ j _ => by rw [if_neg (Nat.not_lt_zero i)])).mp ho
      have HB0 := Lib.hid hb
      have hsz1 : w.heap.size ≤ w1.heap.size := HB1.out.size
      clear ho hb
      go_wp2
      go_loopw [8] (fun i wr => ∃ s : Nat, s ≤ n ∧ i = .int .i64 s ∧ OwnM wr w1.heap.size (.slice a2 n cap2) (M.mk n n (fun i k => if i < s then M.relF R (M.colsP R) i k else -1000000000000000)) ∧ Below w1.heap.size w1 wr) (fun i _ => n - (intOf i).toNat)
      case atStart => exact ⟨0, Nat.zero_le _, rfl, HO0.out, HB0.out⟩
      case round =>
        obtain ⟨s, hs, rfl, hO, hb⟩ := hrel
        obtain ⟨wo, rfl⟩ : ∃ x, x = wr := ⟨_, rfl⟩
        have HO := Lib.hid hO
        have HBo := Lib.hid hb
        clear hO hb HO0 HB0
        by_cases hlt : s < n
        · have hsi : (s : Int) < (n : Int) := by omega
          have HO2 : Hid (OwnM wo w1.heap.size (.slice a2 n cap2) (M.mk n n (fun i k => if i < s ∨ (i = s ∧ k < 0) then M.relF R (M.colsP R) i k else -1000000000000000))) :=
            (congrArg (OwnM _ _ _) (M.mk_congr fun i _ j _ => by
              by_cases e : i < s
              · rw [if_pos e, if_pos (.inl e)]
              · rw [if_neg e, if_neg (by omega)])).mp HO.out
          go_wp2
          go_loopw [9] (fun j wr => ∃ t : Nat, t ≤ n ∧ j = .int .i64 t ∧ OwnM wr w1.heap.size (.slice a2 n cap2) (M.mk n n (fun i k => if i < s ∨ (i = s ∧ k < t) then M.relF R (M.colsP R) i k else -1000000000000000)) ∧ Below w1.heap.size w1 wr) (fun j _ => n - (intOf j).toNat)
          case atStart => exact ⟨0, Nat.zero_le _, rfl, HO2.out, HBo.out⟩
          case round =>
            obtain ⟨t, ht, rfl, hO, hb⟩ := hrel
            have HOi := Lib.hid hO
            have HBi := Lib.hid hb
            clear hO hb HO2 HBo HO
            by_cases htl : t < n
            · have hti : (t : Int) < (n : Int) := by omega
              obtain ⟨cl, cv, c3, c4⟩ := HCol.out t htl
              obtain ⟨v, hv⟩ : ∃ v, v = M.colsP R t := ⟨_, rfl⟩
              rw [← hv] at cl cv c3 c4
              have hvi : (v : Int) < (n : Int) := by omega
              obtain ⟨gb, go, q2, o2, cc, x4, hgb, h1, hx4, h2⟩ := dp_row (HA.out.below (HB1.out.trans (HBi.out.mono hsz1))) hlt cl (HLen.out s hlt)
              subst hgb
              obtain ⟨gb', go', q4, o4, cc4, x5, hgb', h3, hx5, h4⟩ := dp_row (HA.out.below (HB1.out.trans (HBi.out.mono hsz1))) htl cl (HLen.out t htl)
              injection hgb' with hgb'
              injection hgb' with e1 e2
              subst e1 e2
              obtain ⟨d1, d2, y1, hd, -, hy1, cy1⟩ := (HP.out.below HBi.out).at t htl
              subst hd
              rw [cv] at hy1
              subst hy1
              have sx := HSm.out s v hlt cl
              rw [← hx4] at sx
              rw [← hx5] at c3 c4
              have HV := Lib.hid hv
              have HX4 := Lib.hid hx4
              have HX5 := Lib.hid hx5
              unfold M.Sm at sx
              clear hv hx4 hx5 cv
              by_cases hxb : x4 = -1000000000000000
              · have hrel : M.relF R (M.colsP R) s t = -1000000000000000 := by
                  unfold M.relF; rw [← HV.out, ← HX4.out, hxb]; unfold M.times; rw [if_pos (.inl rfl)]
                have HN : Hid (OwnM wr w1.heap.size (.slice a2 n cap2) (M.mk n n (fun i k => if i < s ∨ (i = s ∧ k < t + 1) then M.relF R (M.colsP R) i k else -1000000000000000))) := by
                  refine (congrArg (OwnM _ _ _) (M.mk_congr fun i _ k _ => ?_)).mp HOi.out
                  by_cases e : i = s ∧ k = t
                  · obtain ⟨rfl, rfl⟩ := e
                    rw [if_neg (by omega), if_pos (.inr ⟨rfl, by omega⟩), hrel]
                  · by_cases e3 : i < s ∨ (i = s ∧ k < t)
                    · rw [if_pos e3, if_pos (by omega)]
                    · rw [if_neg e3, if_neg (by omega)]
                have hxb2 : (x4 != -1000000000000000) = false := by simpa using hxb
                clear hrel
                go_wp2
                go_quiet (fail)
                go_wp2
                go_roundw
                case rel => exact ⟨t + 1, by omega, by go_num, HN.out.keep (fun _ _ _ => rfl), below_drewN HBi.out _⟩
                case measure => simp [intOf]; omega
              · have hxb2 : (x4 != -1000000000000000) = true := by simpa using hxb
                have hxb3 : (x4 == -1000000000000000) = false := by simpa using hxb
                obtain ⟨dlt, hdlt⟩ : ∃ z, z = x4 - x5 := ⟨_, rfl⟩
                have hw1 : IntKind.i64.wrap (x4 - x5) = dlt := by rw [hdlt]; exact IntWalk.i64_in _ (by omega)
                have hw2 : wrap64 (x4 - x5) = dlt := by rw [hdlt]; exact IntWalk.wrap64_in _ (by omega)
                have hrel : M.relF R (M.colsP R) s t = dlt := by
                  unfold M.relF; rw [← HV.out, ← HX4.out, ← HX5.out, hdlt]; unfold M.times; rw [if_neg (by omega)]; omega
                obtain ⟨g, q, L3, c5, x3, hga, hg3, hq3, hL3, hx3, c31, c32, f31, ho3⟩ := HOi.out.at s t hlt (by rw [M.mk_rowlen _ _ _ _ hlt]; exact htl)
                rw [M.mk_rowlen _ _ _ _ hlt] at hL3
                subst hL3
                subst hga
                have HN : Hid (OwnM (wr.setCell ⟨q, t, none⟩ (.int .i64 dlt)) w1.heap.size (.slice (some ⟨g, 0, none⟩) L3 cap2) (M.mk L3 L3 (fun i k => if i < s ∨ (i = s ∧ k < t + 1) then M.relF R (M.colsP R) i k else -1000000000000000))) := by
                  refine (congrArg (OwnM _ _ _) ?_).mp (ho3 dlt)
                  rw [M.mk_set _ _ _ _ _ _ hlt]
                  refine M.mk_congr fun i _ k _ => ?_
                  by_cases e : i = s
                  · subst e
                    rw [if_pos rfl]
                    by_cases e2 : k = t
                    · subst e2; rw [if_pos rfl, if_pos (.inr ⟨rfl, by omega⟩), hrel]
                    · rw [if_neg e2]
                      by_cases e3 : k < t
                      · rw [if_pos (.inr ⟨rfl, e3⟩), if_pos (.inr ⟨rfl, by omega⟩)]
                      · rw [if_neg (by omega), if_neg (by omega)]
                  · rw [if_neg e]
                    by_cases e3 : i < s ∨ (i = s ∧ k < t)
                    · rw [if_pos e3, if_pos (by omega)]
                    · rw [if_neg e3, if_neg (by omega)]
                clear ho3 hx3 hrel hdlt
                go_wp2
                go_quiet (fail)
                obtain ⟨w3, hw3⟩ : ∃ w3, w3 = wr.drewN nq := ⟨_, rfl⟩
                have k1 : w3.cell? ⟨gb, go + s, none⟩ = some (.slice (some ⟨q2, o2, none⟩) L3 cc) := by rw [hw3]; exact h1
                have k2 : w3.cell? ⟨q2, o2 + v, none⟩ = some (.int .i64 x4) := by rw [hw3]; exact h2
                have k3 : w3.cell? ⟨gb, go + t, none⟩ = some (.slice (some ⟨q4, o4, none⟩) L3 cc4) := by rw [hw3]; exact h3
                have k4 : w3.cell? ⟨q4, o4 + v, none⟩ = some (.int .i64 x5) := by rw [hw3]; exact h4
                have k5 : w3.cell? ⟨d1, d2 + t, none⟩ = some (.int .i64 (v : Int)) := by rw [hw3]; exact cy1
                have k6 : w3.cell? ⟨g, s, none⟩ = some (.slice (some ⟨q, 0, none⟩) L3 c5) := by rw [hw3]; exact c31
                have k7 : w3.cell? ⟨q, t, none⟩ = some (.int .i64 x3) := by rw [hw3]; exact c32
                have k8 : w3.frozen? ⟨q, t, none⟩ = false := by rw [hw3]; exact f31
                have HN3 : Hid (OwnM (w3.setCell ⟨q, t, none⟩ (.int .i64 dlt)) w1.heap.size (.slice (some ⟨g, 0, none⟩) L3 cap2) (M.mk L3 L3 (fun i k => if i < s ∨ (i = s ∧ k < t + 1) then M.relF R (M.colsP R) i k else -1000000000000000))) := by
                  show OwnM _ _ _ _
                  rw [hw3]
                  exact HN.out.keep (fun _ _ _ => rfl)
                have HB3 : Hid (Below w1.heap.size w1 w3) := by show Below _ _ _; rw [hw3]; exact below_drewN HBi.out _
                rw [← hw3]
                clear hw3 h1 h2 h3 h4 cy1 c31 c32 f31 HN HBi HOi
                go_wp2
                go_still_tail 27, (by kernel_rfl)
                change wpList _ _ _ _ _ w3.drew
                go_wp2
                first
                  | exact ⟨⟨t + 1, by omega, by go_num, HN3.out.keep (fun _ _ _ => rfl), HB3.out.drew.setCell hq3 _⟩, by simp [intOf]; omega⟩
                  | (go_roundw
                     case rel => exact ⟨t + 1, by omega, by go_num, HN3.out.keep (fun _ _ _ => rfl), HB3.out.drew.setCell hq3 _⟩
                     case measure => simp [intOf]; omega)
            · obtain rfl : n = t := by omega
              have HO2 : Hid (OwnM wr w1.heap.size (.slice a2 n cap2) (M.mk n n (fun i k => if i < s + 1 then M.relF R (M.colsP R) i k else -1000000000000000))) :=
                (congrArg (OwnM _ _ _) (M.mk_congr fun i hi j hj => by
                  by_cases e : i < s + 1
                  · rw [if_pos e, if_pos (by omega)]
                  · rw [if_neg e, if_neg (by omega)])).mp HOi.out
              go_wp2
              go_roundw
              case rel => exact ⟨s + 1, by omega, by go_num, HO2.out, HBi.out⟩
              case measure => simp [intOf]; omega
        · obtain rfl : n = s := by omega
          have HO2 : Hid (OwnM wo w1.heap.size (.slice a2 n cap2) (M.mk n n (M.relF R (M.colsP R)))) :=
            (congrArg (OwnM _ _ _) (M.mk_congr fun i hi j _ => by rw [if_pos hi])).mp HO.out
          have hq2 := sq_shift HO2.out.mat HSh.out n2 n3
          obtain ⟨Pm, hPm⟩ : ∃ P, P = M.mk n n (M.relF R (M.colsP R)) := ⟨_, rfl⟩
          rw [← hPm] at HUd HNp HO2 hq2
          have HQ2 := Lib.hid hq2
          have hszo : w1.heap.size ≤ wo.heap.size := HBo.out.size
          clear hq2 hPm
          go_wp2_with fail
          refine (sStar _ _ _ Pm _ HQ2.out).mono ?_
          rintro e w3 ⟨b3, c3, rfl, hO, hb⟩
          rw [HNp.out]
          rw [M.bm_star n3 HQ2.out.2.2.1 HNp.out] at hO
          have HO3 := Lib.hid hO
          have HB3 := Lib.hid (HBo.out.trans (hb.mono hszo))
          have HSB : Hid (∀ i j, i < n → j < n → M.Big (M.ent (M.starM Pm n) i j)) := fun i j hi hj => M.star_big n3 HQ2.out.2.2.1 HNp.out hi hj
          clear hO hb
          go_wp2_with fail
          refine (sApplyB _ _ _ _ _ _ _ zz _ (HO3.out.mat.below (b_alloc _ _)) (by have := (own_made w3 0 n (Nat.zero_le _) (by unfold maxLen; omega)).ints'; rw [HZd.out] at this; exact this) (rect_mk _ _ _) HSB.out HZb.out n3 n2 n3).mono ?_
          rintro e w4 ⟨b4, c4, rfl, hx, hb⟩
          rw [HUd.out] at hx
          have hsz3 : w1.heap.size ≤ w3.heap.size := HB3.out.size
          have HB4 : Hid (Below w1.heap.size w1 w4) := Lib.hid (HB3.out.trans ((bel1 hb).mono HB3.out.size))
          have HU : Hid (Own w4 w.heap.size (.slice b4 n c4) (M.dualU R)) := Lib.hid (hx.mono (B' := w.heap.size) (by simp; omega))
          have hsz4 : w1.heap.size ≤ w4.heap.size := HB4.out.size
          have HV0' : Hid (Own (w4.alloc (.cells (madeCells #[.int .i64 0] n) 2)) w4.heap.size (.slice (some ⟨w4.heap.size, 0, none⟩) n n) (M.dualV R 0)) := by
            have h1 := own_made w4 w4.heap.size n (Nat.le_refl _) (by unfold maxLen; omega)
            rw [HZd.out, ← HV0.out] at h1
            exact h1
          clear hx hb
          go_wp2
          clear hmk
          go_loopw [14] (fun k wr => ∃ t : Nat, t ≤ n ∧ k = .int .i64 t ∧ Hid (Own wr w4.heap.size (.slice (some ⟨w4.heap.size, 0, none⟩) n n) (M.dualV R t)) ∧ Hid (Below w4.heap.size w4 wr)) (fun k _ => n - (intOf k).toNat)
          case atStart => exact ⟨0, Nat.zero_le _, rfl, HV0', b_alloc _ _⟩
          case round =>
            obtain ⟨t, ht, rfl, HVt, HBt⟩ := hrel
            by_cases htl : t < n
            · have hti : (t : Int) < (n : Int) := by omega
              obtain ⟨cl, cv, q3, q4⟩ := HCol.out t htl
              have hvs := HVs.out t
              obtain ⟨v, hv⟩ : ∃ v, v = M.colsP R t := ⟨_, rfl⟩
              rw [← hv] at cl cv q3 q4 hvs
              have hvi : (v : Int) < (n : Int) := by omega
              have hBw : Below w1.heap.size w1 wr := HB4.out.trans (HBt.out.mono hsz4)
              obtain ⟨gb, go, q2, o2, cc, x5, hgb, h1, hx5, h2⟩ := dp_row (HA.out.below (HB1.out.trans (hBw.mono hsz1))) htl cl (HLen.out t htl)
              subst hgb
              obtain ⟨d1, d2, y1, hd, -, hy1, cy1⟩ := (HP.out.below hBw).at t htl
              subst hd
              rw [cv] at hy1
              subst hy1
              obtain ⟨d3, d4, y2, hd2, -, hy2, cy2⟩ := (HU.out.ints'.below HBt.out).at t htl
              subst hd2
              have hu0 := HU0.out t htl
              rw [← hy2] at hu0
              rw [← hx5] at q3 q4
              obtain ⟨dlt, hdlt⟩ : ∃ z, z = x5 - y2 := ⟨_, rfl⟩
              have hw1 : IntKind.i64.wrap (x5 - y2) = dlt := by rw [hdlt]; exact IntWalk.i64_in _ (by omega)
              have hw2 : wrap64 (x5 - y2) = dlt := by rw [hdlt]; exact IntWalk.wrap64_in _ (by omega)
              rw [← hx5, ← hy2, ← hdlt] at hvs
              obtain ⟨x6, hst⟩ : ∃ x6, wr.cell? ⟨w4.heap.size, v, none⟩ = some x6 := ⟨_, HVt.out.cellAt v cl⟩
              have hfz := HVt.out.frozenAt v
              have HN : Hid (Own (wr.setCell ⟨w4.heap.size, v, none⟩ (.int .i64 dlt)) w4.heap.size (.slice (some ⟨w4.heap.size, 0, none⟩) n n) (M.dualV R (t + 1))) := by
                show Own _ _ _ _
                rw [hvs]
                exact HVt.out.set v dlt
              clear hvs hv hx5 hy2 hdlt cv hu0 q3 q4
              go_wp2
              go_still_tail 21, (by kernel_rfl)
              change wpList _ _ _ _ _ wr.drew
              go_wp2
              first
                | exact ⟨⟨t + 1, by omega, by go_num, HN.out.keep (fun _ _ _ => rfl), HBt.out.drew.setCell (Nat.le_refl _) _⟩, by simp [intOf]; omega⟩
                | (go_roundw
                   case rel => exact ⟨t + 1, by omega, by go_num, HN.out.keep (fun _ _ _ => rfl), HBt.out.drew.setCell (Nat.le_refl _) _⟩
                   case measure => simp [intOf]; omega)
            · obtain rfl : n = t := by omega
              have HUi : Hid (Ints .i64 wr b4 n (M.dualU R)) := HU.out.ints'.below HBt.out
              have HBf : Hid (Below w.heap.size w w4) := Lib.hid (HB1.out.trans (HB4.out.mono hsz1))
              have HBff : Hid (Below w.heap.size w wr) := Lib.hid (HBf.out.trans (HBt.out.mono HBf.out.size))
              obtain ⟨ub, hub⟩ : ∃ b, b = M.isVec (M.dualU R) := ⟨_, rfl⟩
              obtain ⟨vb, hvb⟩ : ∃ b, b = M.isVec (M.dualV R n) := ⟨_, rfl⟩
              rw [← hub] at HF1 HEt HEf
              rw [← hvb] at HF2 HEt HEf
              clear hub hvb
              cases ub with
              | false =>
                have HE := Lib.hid (HEf.out (by rfl))
                go_wp2_with fail
                refine (sAllF_b _ _ _ _ false HF1.out _ HUi.out).mono ?_
                rintro e w' ⟨rfl, rfl⟩
                go_wp2
                exact bodyPost_ret (v := .tuple #[.slice none 0 0, .slice none 0 0, .int .i64 3]) (by simp [results, Try.results14, go_sem]) rfl (DPost.nil HE.out HBff.out)
              | true =>
                cases vb with
                | false =>
                  have HE := Lib.hid (HEf.out (by rfl))
                  go_wp2_with fail
                  refine (sAllF_b _ _ _ _ true HF1.out _ HUi.out).mono ?_
                  rintro e w' ⟨rfl, rfl⟩
                  go_wp2_with fail
                  refine (sAllF_b _ _ _ _ false HF2.out _ HVt.out.ints').mono ?_
                  rintro e w' ⟨rfl, rfl⟩
                  go_wp2
                  exact bodyPost_ret (v := .tuple #[.slice none 0 0, .slice none 0 0, .int .i64 3]) (by simp [results, Try.results14, go_sem]) rfl (DPost.nil HE.out HBff.out)
                | true =>
                  have HE := Lib.hid (HEt.out (by first | rfl | trivial) (by first | rfl | trivial))
                  go_wp2_with fail
                  refine (sAllF_b _ _ _ _ true HF1.out _ HUi.out).mono ?_
                  rintro e w' ⟨rfl, rfl⟩
                  go_wp2_with fail
                  refine (sAllF_b _ _ _ _ true HF2.out _ HVt.out.ints').mono ?_
                  rintro e w' ⟨rfl, rfl⟩
                  go_wp2
                  refine bodyPost_ret (v := .tuple #[.slice b4 n c4, .slice (some ⟨w4.heap.size, 0, none⟩) n n, .int .i64 0]) (by simp [results, Try.results14, go_sem]) rfl ?_
                  rw [HE.out]
                  exact ⟨w4, _, _, _, _, _, _, rfl, HU.out, HBf.out, HVt.out, HBt.out⟩
  · simp only [Bool.not_eq_true] at hs
    have HS := Lib.hid hs
    have HE : Hid (M.dualRes R = ([], [], 1)) := by show _ = _; unfold M.dualRes; rw [hs]; rfl
    clear h hs
    go_enter Try.func14, Try.ntmps14
    go_wp2_with fail
    refine (sSquare_b _ _ _ R _ false HS.out HA.out).mono ?_
    rintro e w' ⟨rfl, qd, rfl⟩
    go_wp2
    exact bodyPost_ret (v := .tuple #[.slice none 0 0, .slice none 0 0, .int .i64 1]) (by simp [results, Try.results14, go_sem]) rfl (DPost.nil HE.out (b_draws w qd))
end V
end Go.Proofs.Ytmobcobdpemlnaa

/- The model's comparison of a vector with its image; IsEigenVector and IsSubEigen in the model. -/
import Derived.Test.YtmldjmlihkcchabEig
import Derived.Test.YtmldjmlihkcchabSh2
import Derived.Test.YtmldjmlihkcchabApply
namespace Go.Proofs.Ytmldjmlihkcchab
namespace M
def loV (b : Bool) : Int := if b then -1 else 0
def cmpAt (R : List (List Int)) (a b : Int) (x : List Int) (n : Nat) : Int := if cmpSome x n then loV (cmpLo R a b x n) else 1
theorem cmpE_no {R : List (List Int)} {a b : Int} {x : List Int} (h : cmpOk R a b x = false) : cmpE R a b x = 1 := by unfold cmpE; rw [h]; rfl
theorem cmpE_up {R : List (List Int)} {a b : Int} {x : List Int} {k : Nat} (h : cmpOk R a b x = true) (hk : k < x.length) (hu : eigZ a x k < eigY R b x k) : cmpE R a b x = 1 := by
  unfold cmpE
  rw [if_pos h, if_pos]
  unfold cmpUp
  rw [List.any_eq_true]
  exact ⟨k, List.mem_range.2 hk, by rw [decide_eq_true_eq]; exact hu⟩
theorem cmpE_end {R : List (List Int)} {a b : Int} {x : List Int} (h : cmpOk R a b x = true) (hu : cmpUp R a b x x.length = false) : cmpE R a b x = cmpAt R a b x x.length := by
  unfold cmpE cmpAt loV
  rw [if_pos h, hu]
  rfl
theorem up_next (R : List (List Int)) (a b : Int) (x : List Int) (k : Nat) : cmpUp R a b x (k + 1) = (cmpUp R a b x k || decide (eigZ a x k < eigY R b x k)) := any_next _ _
theorem lo_next (R : List (List Int)) (a b : Int) (x : List Int) (k : Nat) : cmpLo R a b x (k + 1) = (cmpLo R a b x k || decide (eigY R b x k < eigZ a x k)) := any_next _ _
theorem some_next (x : List Int) (k : Nat) : cmpSome x (k + 1) = (cmpSome x k || decide (x.getD k 0 ≠ -1000000000000000)) := any_next _ _
theorem cmpOk_of {R : List (List Int)} {a b : Int} {x : List Int} {c d e f : Bool} (h1 : sqB R = c) (h2 : isRat a b = d) (h3 : isVec x = e) (h4 : decide (x.length = R.length) = f) : cmpOk R a b x = (c && d && e && f) := by unfold cmpOk; rw [h1, h2, h3, h4]
end M
namespace V
open Go.RowKit
set_option maxRecDepth 100000 in
set_option maxHeartbeats 400000 in
theorem sStretch (a : Option Addr) (n cap : Nat) (R : List (List Int)) (k : Int) (w : World) (h : Mat w a n R) (hr : Rect R n n) (n1 : 1 ≤ n) (n2 : n ≤ 10) (hs : ∀ i j, i < n → j < n → M.Sm 1000000 (M.ent R i j)) (k1 : 1 ≤ k) (k2 : k ≤ 1000000) :
    Calls Try.prog 57 #[.slice a n cap, .int .i64 k] w (MPost n (M.mk n n (M.shf (M.ent R) 0 k)) w) := by
  have HA := Lib.hid h
  have HR := Lib.hid hr
  have HS := Lib.hid hs
  have HN : Hid (M.Near 0 k) := by show M.Near 0 k; unfold M.Near; omega
  clear h hr hs
  go_enter Try.func57, Try.ntmps57
  go_wp2_with fail
  refine (sShift _ _ _ R 0 k _ HA.out HR.out n1 n2 HS.out HN.out).mono ?_
  rintro e w1 ⟨b, c, rfl, ho, hb⟩
  have HO := Lib.hid ho
  have HB := Lib.hid hb
  clear ho hb
  go_wp2
  go_ret
  exact ⟨_, _, rfl, HO.out, HB.out⟩
set_option maxRecDepth 100000 in
set_option maxHeartbeats 4000000 in
theorem sCompareE (a : Option Addr) (n cap : Nat) (R : List (List Int)) (num den : Int) (a' : Option Addr) (N cap' : Nat) (l : List Int) (w0 : World) (h : Mat w0 a n R) (h' : Ints .i64 w0 a' N l) :
    Calls Try.prog 51 #[.slice a n cap, .agg #[.int .i64 num, .int .i64 den], .slice a' N cap'] w0 fun e w' => e = .returned (.int .i64 (M.cmpE R num den l)) ∧ Below w0.heap.size w0 w' := by
  obtain ⟨w, hwd⟩ : ∃ w, w = w0.alloc (rbox num den) := ⟨_, rfl⟩
  have HX : Hid (Boxed w0 w num den) := by show Boxed _ _ _ _; rw [hwd]; exact boxed _ _ _
  have HA : Hid (Mat w a n R) := h.below HX.out.below
  have HI : Hid (Ints .i64 w a' N l) := h'.below HX.out.below
  have HL := Lib.hid h'.1
  have hRl : R.length = n := h.1
  have HRl := Lib.hid hRl
  have HZ := Lib.hid HX.out.size
  have HCe : Hid (∀ wr, Below w.heap.size w wr → wr.cell? ⟨w0.heap.size, 0, none⟩ = some (.int .i64 num) ∧ wr.cell? ⟨w0.heap.size, 1, none⟩ = some (.int .i64 den)) := fun wr hb => HX.out.cells hb
  obtain ⟨bs, hs⟩ : ∃ b, b = M.sqB R := ⟨_, rfl⟩
  have HS := Lib.hid hs.symm
  obtain ⟨br, hr⟩ : ∃ b, b = M.isRat num den := ⟨_, rfl⟩
  have HR := Lib.hid hr.symm
  obtain ⟨bv, hv⟩ : ∃ b, b = M.isVec l := ⟨_, rfl⟩
  have HV := Lib.hid hv.symm
  cases bs with
  | false =>
    have HE : Hid (M.cmpE R num den l = 1) := M.cmpE_no (by unfold M.cmpOk; rw [← hs]; rfl)
    clear h h' hs hr hv hRl
    go_enter Try.func51, Try.ntmps51
    go_wp2_with fail
    simp only [← hwd] at *
    clear hwd
    refine (sSquare_b _ _ _ R _ false HS.out HA.out).mono ?_
    rintro e w' ⟨rfl, q, rfl⟩
    obtain ⟨p0, p1⟩ := HCe.out _ (b_draws w q)
    have HI0 : Hid (Ints .i64 (w.drewN q) a' N l) := HI.out.below (b_draws w q)
    go_wp2
    go_ret
    exact ⟨by rw [HE.out]; rfl, HX.out.trans (b_draws w q)⟩
  | true =>
    cases br with
    | false =>
      have HE : Hid (M.cmpE R num den l = 1) := M.cmpE_no (by unfold M.cmpOk; rw [← hr]; simp)
      clear h h' hs hr hv hRl
      go_enter Try.func51, Try.ntmps51
      go_wp2_with fail
      simp only [← hwd] at *
      clear hwd
      refine (sSquare_b _ _ _ R _ true HS.out HA.out).mono ?_
      rintro e w' ⟨rfl, q, rfl⟩
      obtain ⟨p0, p1⟩ := HCe.out _ (b_draws w q)
      have HI0 : Hid (Ints .i64 (w.drewN q) a' N l) := HI.out.below (b_draws w q)
      go_wp2_with fail
      refine (sIsRatio_b _ _ false HR.out _).mono ?_
      rintro e w1 ⟨rfl, hb1⟩
      have HB1 : Hid (Below w.heap.size w w1) := (b_draws w q).trans hb1
      have HI1 : Hid (Ints .i64 w1 a' N l) := HI0.out.below hb1
      obtain ⟨p2, p3⟩ := HCe.out _ HB1.out
      clear hb1
      go_wp2
      go_ret
      exact ⟨by rw [HE.out]; rfl, HX.out.trans HB1.out⟩
    | true =>
      cases bv with
      | false =>
        have HE : Hid (M.cmpE R num den l = 1) := M.cmpE_no (by unfold M.cmpOk; rw [← hv]; simp)
        clear h h' hs hr hv hRl
        go_enter Try.func51, Try.ntmps51
        go_wp2_with fail
        simp only [← hwd] at *
        clear hwd
        refine (sSquare_b _ _ _ R _ true HS.out HA.out).mono ?_
        rintro e w' ⟨rfl, q, rfl⟩
        obtain ⟨p0, p1⟩ := HCe.out _ (b_draws w q)
        have HI0 : Hid (Ints .i64 (w.drewN q) a' N l) := HI.out.below (b_draws w q)
        go_wp2_with fail
        refine (sIsRatio_b _ _ true HR.out _).mono ?_
        rintro e w1 ⟨rfl, hb1⟩
        have HB1 : Hid (Below w.heap.size w w1) := (b_draws w q).trans hb1
        have HI1 : Hid (Ints .i64 w1 a' N l) := HI0.out.below hb1
        obtain ⟨p2, p3⟩ := HCe.out _ HB1.out
        clear hb1
        go_wp2_with fail
        refine (sVector_b _ _ _ l _ false HV.out HI1.out).mono ?_
        rintro e w' ⟨rfl, rfl⟩
        go_wp2
        go_ret
        exact ⟨by rw [HE.out]; rfl, HX.out.trans HB1.out⟩
      | true =>
        by_cases hN : N = n
        · subst hN
          have hok : M.cmpOk R num den l = true := by unfold M.cmpOk; rw [← hs, ← hr, ← hv, HL.out, hRl]; simp
          have HOk := Lib.hid hok
          obtain ⟨rR, n1, n2, hsm⟩ := sq_parts HA.out hs.symm
          have HRe := Lib.hid rR
          have HSm := Lib.hid hsm
          obtain ⟨d1, d2, d3, d4, -⟩ := M.isRat_t hr.symm
          obtain ⟨-, -, v3⟩ := M.isVec_t hv.symm
          have HVal : Hid (∀ k, k < N → l.getD k 0 = -1000000000000000 ∨ (-1000000 ≤ l.getD k 0 ∧ l.getD k 0 ≤ 1000000)) := fun k hk => M.isVal_t (v3 k (by rw [HL.out]; exact hk))
          have HN0 : Hid (M.Near 0 den) := by show M.Near 0 den; unfold M.Near; omega
          have HB : Hid (∀ k, k < N → M.Big (l.getD k 0)) := fun k hk => M.big_val (v3 k (by rw [HL.out]; exact hk))
          have HM : Hid (∀ i k, i < N → k < N → M.Big (M.ent (M.mk N N (M.shf (M.ent R) 0 den)) i k)) := fun i k hi hk => by
            rw [M.ent_mk _ _ _ _ _ hi hk]; exact M.big_sm (M.shf_sm HN0.out (hsm i k hi hk)) (by omega)
          obtain ⟨y, hy⟩ : ∃ y, y = M.applyM (M.mk N N (M.shf (M.ent R) 0 den)) l := ⟨_, rfl⟩
          have HYe : Hid (∀ k, k < N → y.getD k 0 = M.eigY R den l k) := fun k hk => by
            rw [hy]
            unfold M.applyM
            rw [List.getD_eq_getElem?_getD, List.getElem?_map, M.mk_length, List.getElem?_range hk]
            show M.dotV _ _ k _ = _
            unfold M.dotV M.eigY
            rw [HL.out, hRl]
            exact M.sumN_congr fun j hj => by rw [M.ent_mk _ _ _ _ _ hk hj]
          have HY := Lib.hid hy
          have HNb : Hid (M.Big num) := M.big_sm (L := 1000000) (.inr ⟨d1, d2⟩) (by omega)
          clear h h' hs hr hv hRl hok rR hsm v3 hy
          go_enter Try.func51, Try.ntmps51
          go_wp2_with fail
          simp only [← hwd] at *
          clear hwd
          refine (sSquare_b _ _ _ R _ true HS.out HA.out).mono ?_
          rintro e w' ⟨rfl, q, rfl⟩
          obtain ⟨p0, p1⟩ := HCe.out _ (b_draws w q)
          have HI0 : Hid (Ints .i64 (w.drewN q) a' N l) := HI.out.below (b_draws w q)
          go_wp2_with fail
          refine (sIsRatio_b _ _ true HR.out _).mono ?_
          rintro e w1 ⟨rfl, hb1⟩
          have HB1 : Hid (Below w.heap.size w w1) := (b_draws w q).trans hb1
          have HI1 : Hid (Ints .i64 w1 a' N l) := HI0.out.below hb1
          obtain ⟨p2, p3⟩ := HCe.out _ HB1.out
          clear hb1
          go_wp2_with fail
          refine (sVector_b _ _ _ l _ true HV.out HI1.out).mono ?_
          rintro e w' ⟨rfl, rfl⟩
          go_wp2_with fail
          refine (sStretch _ _ _ R den _ (HA.out.below HB1.out) HRe.out n1 n2 HSm.out d3 d4).mono ?_
          rintro e w3 ⟨b3, c3, rfl, ho, hb⟩
          have HO3 := Lib.hid ho
          have HB3 := Lib.hid (HB1.out.trans (hb.mono HB1.out.size))
          have HI3 : Hid (Ints .i64 w3 a' N l) := HI1.out.below hb
          clear ho hb p0 p1 p2 p3
          go_wp2_with fail
          refine (sApplyB _ _ _ _ _ _ _ l _ HO3.out.mat HI3.out (rect_mk _ _ _) HM.out HB.out n2 n1 n2).mono ?_
          rintro e w4 ⟨b4, c4, rfl, ho, hb⟩
          rw [← HY.out] at ho
          have HYi := Lib.hid ho.ints'
          have HB4 := Lib.hid (HB3.out.trans (hb.mono HB3.out.size))
          have HI4 : Hid (Ints .i64 w4 a' N l) := HI3.out.below hb
          clear ho hb
          go_wp2
          go_loopw [8, 9, 10, 11] (fun lo so i _ wr => ∃ k : Nat, k ≤ N ∧ i = .int .i64 k ∧ lo = .int .i64 (M.loV (M.cmpLo R num den l k)) ∧ so = .bool (M.cmpSome l k) ∧ Hid (M.cmpUp R num den l k = false) ∧ ∃ q, wr = w4.drewN q) (fun _ _ i _ _ => N - (intOf i).toNat)
          case atStart => exact ⟨0, Nat.zero_le _, rfl, rfl, rfl, rfl, 0, rfl⟩
          case round =>
            obtain ⟨k, hk, rfl, rfl, rfl, HU, q2, rfl⟩ := hrel
            have HBq : Hid (Below w.heap.size w (w4.drewN q2)) := below_drewN HB4.out _
            by_cases hlt : k < N
            · have hki : (k : Int) < (N : Int) := by omega
              obtain ⟨e1, e2, u, rfl, -, hu, cu⟩ := HYi.out.at k hlt
              obtain ⟨e3, e4, v, rfl, -, hv, cv⟩ := HI4.out.at k hlt
              rw [HYe.out k hlt] at hu
              obtain ⟨z, hz⟩ : ∃ z, z = M.eigZ num l k := ⟨_, rfl⟩
              have HCt : Hid (∀ w : World, Calls Try.prog 68 #[.int .i64 num, .int .i64 v] w fun e w' => e = .returned (.int .i64 z) ∧ w = w') := by
                intro w
                rw [hz, hv]
                exact sTimesB _ _ _ HNb.out (HB.out k hlt)
              obtain ⟨p0, p1⟩ := HCe.out _ HB4.out
              have hsn := M.some_next l k
              rw [← hv] at hsn
              have hln := M.lo_next R num den l k
              have hun := M.up_next R num den l k
              rw [← hu, ← hz] at hln hun
              rw [HU.out] at hun
              have HLn := Lib.hid hln
              have HUn := Lib.hid hun
              have HUu := Lib.hid hu
              have HZz := Lib.hid hz
              obtain ⟨sk, hsk⟩ : ∃ s, s = M.cmpSome l k := ⟨_, rfl⟩
              have hsn2 : M.cmpSome l (k + 1) = (sk || (v != -1000000000000000)) := by
                rw [hsn, hsk]; congr 1
                by_cases e : v = -1000000000000000 <;> simp [e]
              have HSn := Lib.hid hsn2
              rw [← hsk]
              clear hu hv hz hsn hln hun hsn2 hsk
              cases sk with
              | true =>
                rcases Int.lt_trichotomy z u with hc | hc | hc
                · have HE : Hid (M.cmpE R num den l = 1) := M.cmpE_up HOk.out (by rw [HL.out]; exact hlt) (by rw [← HUu.out, ← HZz.out]; exact hc)
                  generalize M.loV (M.cmpLo R num den l k) = lo at *
                  go_wp2
                  go_quiet ((go_at_call 68; exact q_more_s (HCt.out _)))
                  go_wp2
                  go_ret
                  exact ⟨by rw [HE.out]; rfl, HX.out.trans (below_drewN HB4.out _)⟩
                · have HUN : Hid (M.cmpUp R num den l (k + 1) = false) := by show _ = _; rw [HUn.out, decide_eq_false (by omega)]; rfl
                  have HLN : Hid (M.cmpLo R num den l (k + 1) = M.cmpLo R num den l k) := by show _ = _; rw [HLn.out, decide_eq_false (by omega), Bool.or_false]
                  have hc1 : ¬ z < u := by omega
                  have hc2 : ¬ u < z := by omega
                  clear hc
                  obtain ⟨lo, hlo⟩ : ∃ x, x = M.loV (M.cmpLo R num den l k) := ⟨_, rfl⟩
                  have HLo := Lib.hid hlo
                  rw [← hlo]
                  clear hlo
                  go_wp2
                  go_quiet ((go_at_call 68; exact q_more_s (HCt.out _)))
                  go_wp2
                  go_roundw
                  case rel => exact ⟨k + 1, by omega, by go_num, by rw [HLN.out, HLo.out], by rw [HSn.out]; rfl, HUN, _, rfl⟩
                  case measure => simp [intOf]; omega
                · have HUN : Hid (M.cmpUp R num den l (k + 1) = false) := by show _ = _; rw [HUn.out, decide_eq_false (by omega)]; rfl
                  have HLN : Hid (M.cmpLo R num den l (k + 1) = true) := by show _ = _; rw [HLn.out, decide_eq_true hc, Bool.or_true]
                  have hc1 : ¬ z < u := by omega
                  obtain ⟨lo, hlo⟩ : ∃ x, x = M.loV (M.cmpLo R num den l k) := ⟨_, rfl⟩
                  rw [← hlo]
                  clear hlo
                  go_wp2
                  go_quiet ((go_at_call 68; exact q_more_s (HCt.out _)))
                  go_wp2
                  go_roundw
                  case rel => exact ⟨k + 1, by omega, by go_num, by rw [HLN.out]; rfl, by rw [HSn.out]; rfl, HUN, _, rfl⟩
                  case measure => simp [intOf]; omega
              | false =>
                by_cases hvb : v = -1000000000000000
                · have hv1 : (v != -1000000000000000) = false := by simp [hvb]
                  rw [hv1] at HSn
                  clear hvb
                  rcases Int.lt_trichotomy z u with hc | hc | hc
                  · have HE : Hid (M.cmpE R num den l = 1) := M.cmpE_up HOk.out (by rw [HL.out]; exact hlt) (by rw [← HUu.out, ← HZz.out]; exact hc)
                    generalize M.loV (M.cmpLo R num den l k) = lo at *
                    go_wp2
                    go_quiet ((go_at_call 68; exact q_more_s (HCt.out _)))
                    go_wp2
                    go_ret
                    exact ⟨by rw [HE.out]; rfl, HX.out.trans (below_drewN HB4.out _)⟩
                  · have HUN : Hid (M.cmpUp R num den l (k + 1) = false) := by show _ = _; rw [HUn.out, decide_eq_false (by omega)]; rfl
                    have HLN : Hid (M.cmpLo R num den l (k + 1) = M.cmpLo R num den l k) := by show _ = _; rw [HLn.out, decide_eq_false (by omega), Bool.or_false]
                    have hc1 : ¬ z < u := by omega
                    have hc2 : ¬ u < z := by omega
                    clear hc
                    obtain ⟨lo, hlo⟩ : ∃ x, x = M.loV (M.cmpLo R num den l k) := ⟨_, rfl⟩
                    have HLo := Lib.hid hlo
                    rw [← hlo]
                    clear hlo
                    go_wp2
                    go_quiet ((go_at_call 68; exact q_more_s (HCt.out _)))
                    go_wp2
                    go_roundw
                    case rel => exact ⟨k + 1, by omega, by go_num, by rw [HLN.out, HLo.out], by rw [HSn.out]; rfl, HUN, _, rfl⟩
                    case measure => simp [intOf]; omega
                  · have HUN : Hid (M.cmpUp R num den l (k + 1) = false) := by show _ = _; rw [HUn.out, decide_eq_false (by omega)]; rfl
                    have HLN : Hid (M.cmpLo R num den l (k + 1) = true) := by show _ = _; rw [HLn.out, decide_eq_true hc, Bool.or_true]
                    have hc1 : ¬ z < u := by omega
                    obtain ⟨lo, hlo⟩ : ∃ x, x = M.loV (M.cmpLo R num den l k) := ⟨_, rfl⟩
                    rw [← hlo]
                    clear hlo
                    go_wp2
                    go_quiet ((go_at_call 68; exact q_more_s (HCt.out _)))
                    go_wp2
                    go_roundw
                    case rel => exact ⟨k + 1, by omega, by go_num, by rw [HLN.out]; rfl, by rw [HSn.out]; rfl, HUN, _, rfl⟩
                    case measure => simp [intOf]; omega
                · have hv1 : (v != -1000000000000000) = true := by simpa using hvb
                  rw [hv1] at HSn
                  clear hvb
                  rcases Int.lt_trichotomy z u with hc | hc | hc
                  · have HE : Hid (M.cmpE R num den l = 1) := M.cmpE_up HOk.out (by rw [HL.out]; exact hlt) (by rw [← HUu.out, ← HZz.out]; exact hc)
                    generalize M.loV (M.cmpLo R num den l k) = lo at *
                    go_wp2
                    go_quiet ((go_at_call 68; exact q_more_s (HCt.out _)))
                    go_wp2
                    go_ret
                    exact ⟨by rw [HE.out]; rfl, HX.out.trans (below_drewN HB4.out _)⟩
                  · have HUN : Hid (M.cmpUp R num den l (k + 1) = false) := by show _ = _; rw [HUn.out, decide_eq_false (by omega)]; rfl
                    have HLN : Hid (M.cmpLo R num den l (k + 1) = M.cmpLo R num den l k) := by show _ = _; rw [HLn.out, decide_eq_false (by omega), Bool.or_false]
                    have hc1 : ¬ z < u := by omega
                    have hc2 : ¬ u < z := by omega
                    clear hc
                    obtain ⟨lo, hlo⟩ : ∃ x, x = M.loV (M.cmpLo R num den l k) := ⟨_, rfl⟩
                    have HLo := Lib.hid hlo
                    rw [← hlo]
                    clear hlo
                    go_wp2
                    go_quiet ((go_at_call 68; exact q_more_s (HCt.out _)))
                    go_wp2
                    go_roundw
                    case rel => exact ⟨k + 1, by omega, by go_num, by rw [HLN.out, HLo.out], by rw [HSn.out]; rfl, HUN, _, rfl⟩
                    case measure => simp [intOf]; omega
                  · have HUN : Hid (M.cmpUp R num den l (k + 1) = false) := by show _ = _; rw [HUn.out, decide_eq_false (by omega)]; rfl
                    have HLN : Hid (M.cmpLo R num den l (k + 1) = true) := by show _ = _; rw [HLn.out, decide_eq_true hc, Bool.or_true]
                    have hc1 : ¬ z < u := by omega
                    obtain ⟨lo, hlo⟩ : ∃ x, x = M.loV (M.cmpLo R num den l k) := ⟨_, rfl⟩
                    rw [← hlo]
                    clear hlo
                    go_wp2
                    go_quiet ((go_at_call 68; exact q_more_s (HCt.out _)))
                    go_wp2
                    go_roundw
                    case rel => exact ⟨k + 1, by omega, by go_num, by rw [HLN.out]; rfl, by rw [HSn.out]; rfl, HUN, _, rfl⟩
                    case measure => simp [intOf]; omega
            · obtain rfl : k = N := by omega
              have HE : Hid (M.cmpE R num den l = M.cmpAt R num den l k) := by
                show _ = _
                rw [M.cmpE_end HOk.out (by rw [HL.out]; exact HU.out), HL.out]
              obtain ⟨sk, hsk⟩ : ∃ s, s = M.cmpSome l k := ⟨_, rfl⟩
              have HSk := Lib.hid hsk
              rw [← hsk]
              clear hsk
              cases sk with
              | true =>
                have HF : Hid (M.cmpE R num den l = M.loV (M.cmpLo R num den l k)) := by show _ = _; rw [HE.out]; unfold M.cmpAt; rw [← HSk.out, if_pos rfl]
                generalize M.loV (M.cmpLo R num den l k) = lo at *
                go_wp2
                go_ret
                exact ⟨by rw [HF.out]; rfl, HX.out.trans HBq.out⟩
              | false =>
                have HF : Hid (M.cmpE R num den l = 1) := by show _ = _; rw [HE.out]; unfold M.cmpAt; rw [← HSk.out]; rfl
                generalize M.loV (M.cmpLo R num den l k) = lo at *
                go_wp2
                go_ret
                exact ⟨by rw [HF.out]; rfl, HX.out.trans HBq.out⟩
        · have HE : Hid (M.cmpE R num den l = 1) := M.cmpE_no (by unfold M.cmpOk; rw [decide_eq_false (fun k => hN (by rw [← HL.out, k, hRl]))]; simp)
          have hne : ((N : Int) != (n : Int)) = true := by simp; omega
          have hne2 : ((N : Int) == (n : Int)) = false := by simp; omega
          have hne3 : (N == n) = false := by simpa using hN
          clear h h' hs hr hv hRl
          go_enter Try.func51, Try.ntmps51
          go_wp2_with fail
          simp only [← hwd] at *
          clear hwd
          refine (sSquare_b _ _ _ R _ true HS.out HA.out).mono ?_
          rintro e w' ⟨rfl, q, rfl⟩
          obtain ⟨p0, p1⟩ := HCe.out _ (b_draws w q)
          have HI0 : Hid (Ints .i64 (w.drewN q) a' N l) := HI.out.below (b_draws w q)
          go_wp2_with fail
          refine (sIsRatio_b _ _ true HR.out _).mono ?_
          rintro e w1 ⟨rfl, hb1⟩
          have HB1 : Hid (Below w.heap.size w w1) := (b_draws w q).trans hb1
          have HI1 : Hid (Ints .i64 w1 a' N l) := HI0.out.below hb1
          obtain ⟨p2, p3⟩ := HCe.out _ HB1.out
          clear hb1
          go_wp2_with fail
          refine (sVector_b _ _ _ l _ true HV.out HI1.out).mono ?_
          rintro e w' ⟨rfl, rfl⟩
          go_wp2
          go_ret
          exact ⟨by rw [HE.out]; rfl, HX.out.trans HB1.out⟩
end V
end Go.Proofs.Ytmldjmlihkcchab

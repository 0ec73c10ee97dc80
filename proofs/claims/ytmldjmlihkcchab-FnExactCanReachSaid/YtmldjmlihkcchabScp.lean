/- ComponentsOf, IsIrreducible and CanReach in the model. -/
import Derived.Test.YtmldjmlihkcchabRbt
import Derived.Test.YtmldjmlihkcchabCps
import Derived.Test.YtmldjmlihkcchabHv3
namespace Go.Proofs.Ytmldjmlihkcchab.V
open Go.RowKit
set_option maxRecDepth 100000 in
set_option maxHeartbeats 4000000 in
theorem sComponents (a : Option Addr) (n cap : Nat) (R : List (List Int)) (w : World) (h : Sq w a n R) :
    Calls Try.prog 39 #[.slice a n cap] w fun e w' => ∃ b m c, e = .returned (.slice b m c) ∧ OwnM w' w.heap.size (.slice b m c) (M.compsL (M.ent R) n) ∧ Below w.heap.size w w' := by
  have HSq := Lib.hid h
  obtain ⟨n1, n2⟩ := h.2.2.2
  clear h
  go_enter Try.func39, Try.ntmps39
  go_wp2_with fail
  refine (sReach _ _ _ R _ HSq.out).mono ?_
  rintro e w1 ⟨tb, tc, rfl, ht, hb⟩
  have HT := Lib.hid ht
  have HB1 := Lib.hid hb
  obtain ⟨tg, -, rfl, -, -⟩ := ht.at 0 0 n1 n1
  clear ht hb
  go_wp2
  go_loopw [4, 5, 6, 7] (fun o i _ _ wr => ∃ (k : Nat) (b : Option Addr) (c : Nat), k ≤ n ∧ i = .int .i64 k ∧ o = .slice b (M.compsP (M.ent R) n k).length c ∧ Hid (OwnM wr w1.heap.size (.slice b (M.compsP (M.ent R) n k).length c) (M.compsP (M.ent R) n k)) ∧ Hid (Below w1.heap.size w1 wr)) (fun _ i _ _ _ => n - (intOf i).toNat)
  case atStart => exact ⟨0, _, 0, Nat.zero_le _, rfl, rfl, ownM_lit0 _ _ (Nat.le_refl _), b_alloc _ _⟩
  case round =>
    obtain ⟨k, b, c, hk, rfl, rfl, HO, HB⟩ := hrel
    obtain ⟨wo, rfl⟩ : ∃ x, x = wr := ⟨_, rfl⟩
    by_cases hlt : k < n
    · have hki : (k : Int) < (n : Int) := by omega
      have HNx := Lib.hid (M.compsP_next (M.ent R) n k)
      have HLn := Lib.hid (M.compsP_len (M.ent R) n k)
      go_wp2
      go_loopw [6, 7] (fun o i wr => ∃ (t : Nat) (b : Option Addr) (c : Nat), t ≤ n ∧ i = .int .i64 t ∧ o = .slice b (M.compP (M.ent R) n k t).length c ∧ Hid (Own wr wo.heap.size (.slice b (M.compP (M.ent R) n k t).length c) (M.compP (M.ent R) n k t)) ∧ Hid (Below wo.heap.size wo wr)) (fun _ i _ => n - (intOf i).toNat)
      case atStart => exact ⟨0, _, 0, Nat.zero_le _, rfl, rfl, own_lit0 _ _ (Nat.le_refl _), b_alloc _ _⟩
      case round =>
        obtain ⟨t, b2, c2, ht, rfl, rfl, HI, HBi⟩ := hrel
        by_cases htl : t < n
        · have hti : (t : Int) < (n : Int) := by omega
          have HTw := Lib.hid ((HT.out.below HB.out).below HBi.out)
          obtain ⟨g1, q1, e1, r1, r2⟩ := ((HT.out.below HB.out).below (HBi.out.mono (Nat.le_refl _))).at k t hlt htl
          injection e1 with e1
          injection e1 with e1
          subst e1
          obtain ⟨g1, q2, e1, r3, r4⟩ := ((HT.out.below HB.out).below (HBi.out.mono (Nat.le_refl _))).at t k htl hlt
          injection e1 with e1
          injection e1 with e1
          subst e1
          have hnx := M.compP_next (M.ent R) n k t
          have hrl : M.relB (M.ent R) n k t = (M.rchB (M.ent R) n k t && M.rchB (M.ent R) n t k) := rfl
          have hlen := M.compP_len (M.ent R) n k t
          obtain ⟨x, hx⟩ : ∃ x, x = M.rchB (M.ent R) n k t := ⟨_, rfl⟩
          obtain ⟨y, hy⟩ : ∃ y, y = M.rchB (M.ent R) n t k := ⟨_, rfl⟩
          rw [← hx] at r2 hrl
          rw [← hy] at r4 hrl
          rw [hrl] at hnx
          clear hx hy hrl HTw
          cases x with
          | false =>
            have HN : Hid (M.compP (M.ent R) n k (t + 1) = M.compP (M.ent R) n k t) := by show _ = _; rw [hnx]; simp
            clear hnx
            go_wp2
            go_roundw
            case rel => exact ⟨t + 1, b2, c2, by omega, by go_num, by rw [HN.out], by show Own _ _ _ _; rw [HN.out]; exact HI.out, HBi⟩
            case measure => simp [intOf]; omega
          | true =>
            cases y with
            | false =>
              have HN : Hid (M.compP (M.ent R) n k (t + 1) = M.compP (M.ent R) n k t) := by show _ = _; rw [hnx]; simp
              clear hnx
              go_wp2
              go_roundw
              case rel => exact ⟨t + 1, b2, c2, by omega, by go_num, by rw [HN.out], by show Own _ _ _ _; rw [HN.out]; exact HI.out, HBi⟩
              case measure => simp [intOf]; omega
            | true =>
              have HN : Hid (M.compP (M.ent R) n k (t + 1) = M.compP (M.ent R) n k t ++ [(t : Int)]) := by show _ = _; rw [hnx]; simp
              clear hnx
              generalize M.compP (M.ent R) n k t = l at *
              go_wp2_with (at_builtin; refine append1 _ rfl (.tmp 40) (.tmp 42) rfl wo.heap.size _ l (t : Int) _ rfl rfl HI.out rfl (by omega) HBi.out.size ?_)
              intro b4 c4 w4 hO4 hb4 _
              have HO4 := Lib.hid hO4
              have HB4 := Lib.hid (HBi.out.trans hb4)
              rw [← HN.out] at HO4
              clear hO4 hb4
              go_wp2
              go_roundw
              case rel => exact ⟨t + 1, b4, c4, by omega, by go_num, by rw [HN.out, List.length_append]; rfl, by show Own _ _ _ _; rw [HN.out, List.length_append]; rw [HN.out] at HO4; exact HO4.out, HB4⟩
              case measure => simp [intOf]; omega
        · obtain rfl : t = n := by omega
          have HO1 : Hid (Own wr wo.heap.size (.slice b2 (M.compL (M.ent R) t k).length c2) (M.compL (M.ent R) t k)) := HI
          have hsl : (Value.slice b2 (M.compP (M.ent R) t k t).length c2) = .slice b2 (M.compL (M.ent R) t k).length c2 := rfl
          rw [hsl]
          clear HI hsl
          obtain ⟨d, od, x, rfl, -, hx, cx⟩ := HO1.out.ints'.at 0 (M.compL_pos hlt)
          rw [Nat.add_zero] at cx
          have hrep := (M.rep_t (A := M.ent R) hlt).2.2
          rw [← hx] at hrep
          have HRp := Lib.hid hrep
          have hlen1 : (M.compL (M.ent R) t k).length ≤ 10 := by have := M.compP_len (M.ent R) t k t; unfold M.compL; omega
          have hlen0 := M.compL_pos (A := M.ent R) hlt
          clear hx hrep
          generalize M.compL (M.ent R) t k = l at *
          by_cases hr : x = (k : Int)
          · have HN : Hid (M.compsP (M.ent R) t (k + 1) = M.compsP (M.ent R) t k ++ [l]) := by show _ = _; rw [HNx.out, if_pos (by have := HRp.out; omega)]
            have hr2 : (x == (k : Int)) = true := by simp [hr]
            clear hr
            generalize M.compsP (M.ent R) t k = L at *
            go_wp2_with (at_builtin; refine appendRow wo _ rfl (.tmp 49) (.tmp 51) rfl w1.heap.size _ _ L l _ rfl rfl HO.out HBi.out HO1.out rfl (by have := HLn.out; omega) HB.out.size ?_)
            intro b4 c4 w4 hO4 hb4 _
            have HO4 := Lib.hid hO4
            have HB4 := Lib.hid ((HB.out.trans (HBi.out.mono HB.out.size)).trans hb4)
            clear hO4 hb4
            go_wp2
            go_roundw
            case rel => exact ⟨k + 1, b4, c4, by omega, by go_num, by rw [HN.out, List.length_append]; rfl, by show OwnM _ _ _ _; rw [HN.out, List.length_append]; exact HO4.out, HB4⟩
            case measure => simp [intOf]; omega
          · have HN : Hid (M.compsP (M.ent R) t (k + 1) = M.compsP (M.ent R) t k) := by show _ = _; rw [HNx.out, if_neg (by have := HRp.out; omega), List.append_nil]
            have hr2 : (x == (k : Int)) = false := by simpa using hr
            go_wp2
            go_roundw
            case rel => exact ⟨k + 1, b, c, by omega, by go_num, by rw [HN.out], by show OwnM _ _ _ _; rw [HN.out]; exact HO.out.below HBi.out, HB.out.trans (HBi.out.mono HB.out.size)⟩
            case measure => simp [intOf]; omega
    · obtain rfl : k = n := by omega
      go_wp2
      go_ret
      exact ⟨b, _, c, rfl, HO.out.mono HB1.out.size, HB1.out.trans (HB.out.mono HB1.out.size)⟩
set_option maxRecDepth 100000 in
set_option maxHeartbeats 400000 in
theorem sComponentsOfX (a : Option Addr) (n cap : Nat) (R : List (List Int)) (w : World) (h : Mat w a n R) :
    Calls Try.prog 13 #[.slice a n cap] w (MRes (M.cmpsRes R) w) := by
  have HA := Lib.hid h
  by_cases hs : M.sqB R = true
  · have HS := Lib.hid hs
    have HQ := Lib.hid (sq_of h hs)
    have HE : Hid (M.cmpsRes R = (M.compsL (M.ent R) n, 0)) := by show _ = _; unfold M.cmpsRes; rw [if_pos hs, h.1]
    clear h hs
    go_enter Try.func13, Try.ntmps13
    go_wp2_with fail
    refine (sSquare_b _ _ _ R _ true HS.out HA.out).mono ?_
    rintro e w' ⟨rfl, q, rfl⟩
    go_wp2_with fail
    refine (sComponents _ _ _ R _ (HQ.out.below (b_draws _ _))).mono ?_
    rintro e w1 ⟨b1, m1, c1, rfl, ho, hb⟩
    have HO := Lib.hid ho
    have HB := Lib.hid ((b_draws w q).trans hb)
    clear ho hb
    go_wp2
    go_ret2
    rw [HE.out]
    exact ⟨_, _, _, rfl, HO.out, HB.out⟩
  · simp only [Bool.not_eq_true] at hs
    have HS := Lib.hid hs
    have HE : Hid (M.cmpsRes R = ([], 1)) := by show _ = _; unfold M.cmpsRes; rw [hs]; rfl
    clear h hs
    go_enter Try.func13, Try.ntmps13
    go_wp2_with fail
    refine (sSquare_b _ _ _ R _ false HS.out HA.out).mono ?_
    rintro e w' ⟨rfl, q, rfl⟩
    go_wp2
    go_ret2
    exact MRes.nil HE.out (b_draws _ _)
set_option maxRecDepth 100000 in
set_option maxHeartbeats 400000 in
theorem sIsIrreducible (a : Option Addr) (n cap : Nat) (R : List (List Int)) (w : World) (h : Mat w a n R) :
    Calls Try.prog 24 #[.slice a n cap] w (BPost (M.irrRes R) w) := by
  have HA := Lib.hid h
  by_cases hs : M.sqB R = true
  · have HS := Lib.hid hs
    have HQ := Lib.hid (sq_of h hs)
    obtain ⟨n1, n2⟩ := (sq_of h hs).2.2.2
    obtain ⟨m, hm⟩ : ∃ m, m = (M.compsL (M.ent R) n).length := ⟨_, rfl⟩
    have HE : Hid (M.irrRes R = (((m : Int) == 1), 0)) := by
      show _ = _
      unfold M.irrRes
      rw [if_pos hs, h.1, M.irr_eq n1, ← hm]
      congr 1
      by_cases e : m = 1
      · subst e; rfl
      · rw [decide_eq_false e]; symm; simp; omega
    have HM := Lib.hid hm
    clear h hs hm
    go_enter Try.func24, Try.ntmps24
    go_wp2_with fail
    refine (sSquare_b _ _ _ R _ true HS.out HA.out).mono ?_
    rintro e w' ⟨rfl, q, rfl⟩
    go_wp2_with fail
    refine (sComponents _ _ _ R _ (HQ.out.below (b_draws _ _))).mono ?_
    rintro e w1 ⟨b1, m1, c1, rfl, ho, hb⟩
    have hm1 : m1 = m := by rw [ho.len, HM.out]
    subst hm1
    have HB := Lib.hid ((b_draws w q).trans hb)
    clear ho hb
    go_wp2
    go_ret2
    exact BPost.mk' HE.out HB.out
  · simp only [Bool.not_eq_true] at hs
    have HS := Lib.hid hs
    have HE : Hid (M.irrRes R = (false, 1)) := by show _ = _; unfold M.irrRes; rw [hs]; rfl
    clear h hs
    go_enter Try.func24, Try.ntmps24
    go_wp2_with fail
    refine (sSquare_b _ _ _ R _ false HS.out HA.out).mono ?_
    rintro e w' ⟨rfl, q, rfl⟩
    go_wp2
    go_ret2
    exact BPost.mk' HE.out (b_draws _ _)
set_option maxRecDepth 100000 in
set_option maxHeartbeats 400000 in
theorem sCanReach (a : Option Addr) (n cap : Nat) (R : List (List Int)) (x y : Int) (w : World) (h : Mat w a n R) :
    Calls Try.prog 16 #[.slice a n cap, .int .i64 x, .int .i64 y] w (BPost (M.canRes R x y) w) := by
  have HA := Lib.hid h
  by_cases hs : M.sqB R = true
  · have HS := Lib.hid hs
    have HQ := Lib.hid (sq_of h hs)
    obtain ⟨n1, n2⟩ := (sq_of h hs).2.2.2
    obtain ⟨c, hc⟩ : ∃ c, c = M.inN n x := ⟨_, rfl⟩
    obtain ⟨d, hd⟩ : ∃ d, d = M.inN n y := ⟨_, rfl⟩
    have HC := Lib.hid hc.symm
    have HD := Lib.hid hd.symm
    have hres : M.canRes R x y = if c && d then (M.rchB (M.ent R) n x.toNat y.toNat, 0) else (false, 2) := by
      unfold M.canRes; rw [if_pos hs, h.1, hc, hd]
    cases c with
    | false =>
      have HE : Hid (M.canRes R x y = (false, 2)) := hres
      clear h hs hc hd hres
      go_enter Try.func16, Try.ntmps16
      go_wp2_with fail
      refine (sSquare_b _ _ _ R _ true HS.out HA.out).mono ?_
      rintro e w' ⟨rfl, q, rfl⟩
      go_wp2_with fail
      refine (sNode_b _ _ _ x _ false HC.out (by omega)).mono ?_
      rintro e w' ⟨rfl, rfl⟩
      go_wp2
      go_ret2
      exact BPost.mk' HE.out (b_draws _ _)
    | true =>
      cases d with
      | false =>
        have HE : Hid (M.canRes R x y = (false, 2)) := hres
        clear h hs hc hd hres
        go_enter Try.func16, Try.ntmps16
        go_wp2_with fail
        refine (sSquare_b _ _ _ R _ true HS.out HA.out).mono ?_
        rintro e w' ⟨rfl, q, rfl⟩
        go_wp2_with fail
        refine (sNode_b _ _ _ x _ true HC.out (by omega)).mono ?_
        rintro e w' ⟨rfl, rfl⟩
        go_wp2_with fail
        refine (sNode_b _ _ _ y _ false HD.out (by omega)).mono ?_
        rintro e w' ⟨rfl, rfl⟩
        go_wp2
        go_ret2
        exact BPost.mk' HE.out (b_draws _ _)
      | true =>
        obtain ⟨k, hk, rfl⟩ := M.inN_k hc.symm
        obtain ⟨t, ht, rfl⟩ := M.inN_k hd.symm
        have hki : (k : Int) < (n : Int) := by omega
        have hti : (t : Int) < (n : Int) := by omega
        obtain ⟨r, hr⟩ : ∃ r, r = M.rchB (M.ent R) n k t := ⟨_, rfl⟩
        have HR := Lib.hid hr.symm
        have HE : Hid (M.canRes R k t = (r, 0)) := by show _ = _; rw [hres, hr]; rfl
        clear h hs hc hd hres hr
        go_enter Try.func16, Try.ntmps16
        go_wp2_with fail
        refine (sSquare_b _ _ _ R _ true HS.out HA.out).mono ?_
        rintro e w' ⟨rfl, q, rfl⟩
        go_wp2_with fail
        refine (sNode_b _ _ _ (k : Int) _ true HC.out (by omega)).mono ?_
        rintro e w' ⟨rfl, rfl⟩
        go_wp2_with fail
        refine (sNode_b _ _ _ (t : Int) _ true HD.out (by omega)).mono ?_
        rintro e w' ⟨rfl, rfl⟩
        go_wp2_with fail
        refine (sReach _ _ _ R _ (HQ.out.below (b_draws _ _))).mono ?_
        rintro e w1 ⟨tb, tc, rfl, htb, hb⟩
        obtain ⟨g1, q1, rfl, r1, r2⟩ := htb.at k t hk ht
        rw [HR.out] at r2
        have HB := Lib.hid ((b_draws w q).trans hb)
        clear htb hb
        go_wp2
        go_ret2
        exact BPost.mk' HE.out HB.out
  · simp only [Bool.not_eq_true] at hs
    have HS := Lib.hid hs
    have HE : Hid (M.canRes R x y = (false, 1)) := by show _ = _; unfold M.canRes; rw [hs]; rfl
    clear h hs
    go_enter Try.func16, Try.ntmps16
    go_wp2_with fail
    refine (sSquare_b _ _ _ R _ false HS.out HA.out).mono ?_
    rintro e w' ⟨rfl, q, rfl⟩
    go_wp2
    go_ret2
    exact BPost.mk' HE.out (b_draws _ _)
end Go.Proofs.Ytmldjmlihkcchab.V

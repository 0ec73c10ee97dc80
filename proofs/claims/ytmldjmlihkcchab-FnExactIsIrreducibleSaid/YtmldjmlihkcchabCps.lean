/- ComponentsOf, IsIrreducible and CanReach in the program. -/
import Derived.Test.YtmldjmlihkcchabCmo
namespace Go.Proofs.Ytmldjmlihkcchab
namespace M
def canRes (R : List (List Int)) (x y : Int) : Bool × Int := if sqB R then (if inN R.length x && inN R.length y then (rchB (ent R) R.length x.toNat y.toNat, 0) else (false, 2)) else (false, 1)
def cmpsRes (R : List (List Int)) : List (List Int) × Int := if sqB R then (compsL (ent R) R.length, 0) else ([], 1)
def irrRes (R : List (List Int)) : Bool × Int := if sqB R then (decide ((compL (ent R) R.length 0).length = R.length), 0) else (false, 1)
theorem nodes2 (n : Nat) (x y : Int) : nodesB n [x, y] = (inN n x && inN n y) := by unfold nodesB; simp
theorem inN_k {n : Nat} {x : Int} (h : inN n x = true) : ∃ k : Nat, k < n ∧ x = k := by
  unfold inN at h
  rw [Bool.and_eq_true, decide_eq_true_eq, decide_eq_true_eq] at h
  exact ⟨x.toNat, by omega, by omega⟩
end M
namespace V
open Go.RowKit Go.Maps
def BPost (r : Bool × Int) (w : World) (e : Ending) (w' : World) : Prop := e = .returned (.tuple #[.bool r.1, .int .i64 r.2]) ∧ Below w.heap.size w w'
theorem BPost.mk' {r : Bool × Int} {b : Bool} {c : Int} {w w' : World} (hr : r = (b, c)) (hb : Below w.heap.size w w') : BPost r w (.returned (.tuple #[.bool b, .int .i64 c])) w' := by subst hr; exact ⟨rfl, hb⟩
set_option maxRecDepth 100000 in
set_option maxHeartbeats 2000000 in
theorem componentsOf (a : Option Addr) (n cap : Nat) (R : List (List Int)) (w : World) (h : Sq w a n R) :
    Calls Try.prog 37 #[.slice a n cap] w fun e w' => ∃ b m c, e = .returned (.slice b m c) ∧ OwnM w' w.heap.size (.slice b m c) (M.compsL (M.ent R) n) ∧ Below w.heap.size w w' := by
  have HSq := Lib.hid h
  obtain ⟨n1, n2⟩ := h.2.2.2
  clear h
  go_enter Try.func37, Try.ntmps37
  go_wp2
  go_loopw [3, 4, 5, 8] (fun o _ _ i wr => ∃ (k : Nat) (b : Option Addr) (c : Nat), k ≤ n ∧ i = .int .i64 k ∧ o = .slice b (M.compsP (M.ent R) n k).length c ∧ Hid (OwnM wr w.heap.size (.slice b (M.compsP (M.ent R) n k).length c) (M.compsP (M.ent R) n k)) ∧ Hid (Below w.heap.size w wr)) (fun _ _ _ i _ => n - (intOf i).toNat)
  case atStart => exact ⟨0, none, 0, Nat.zero_le _, rfl, rfl, ownM_nil _ _, Below.refl _ _⟩
  case round =>
    obtain ⟨k, b, c, hk, rfl, rfl, HO, HB⟩ := hrel
    obtain ⟨wo, rfl⟩ : ∃ x, x = wr := ⟨_, rfl⟩
    by_cases hlt : k < n
    · have hki : (k : Int) < (n : Int) := by omega
      have HNx := Lib.hid (M.compsP_next (M.ent R) n k)
      have HLn := Lib.hid (M.compsP_len (M.ent R) n k)
      go_wp2_with fail
      refine (componentOf _ _ _ R k _ (HSq.out.below HB.out) hlt).mono ?_
      rintro e w1 ⟨b1, c1, rfl, ho, hb⟩
      have HO1 := Lib.hid ho
      have HB1 := Lib.hid hb
      obtain ⟨d, od, x, rfl, -, hx, cx⟩ := ho.ints'.at 0 (M.compL_pos hlt)
      rw [Nat.add_zero] at cx
      have hrep := (M.rep_t (A := M.ent R) hlt).2.2
      rw [← hx] at hrep
      have HRp := Lib.hid hrep
      have hlen1 : (M.compL (M.ent R) n k).length ≤ 10 := by have := M.compP_len (M.ent R) n k n; unfold M.compL; omega
      have hlen0 := M.compL_pos (A := M.ent R) hlt
      clear ho hb hx hrep
      generalize M.compL (M.ent R) n k = l at *
      by_cases hr : x = (k : Int)
      · have HN : Hid (M.compsP (M.ent R) n (k + 1) = M.compsP (M.ent R) n k ++ [l]) := by show _ = _; rw [HNx.out, if_pos (by have := HRp.out; omega)]
        have hr2 : (x == (k : Int)) = true := by simp [hr]
        clear hr
        generalize M.compsP (M.ent R) n k = L at *
        go_wp2_with (at_builtin; refine appendRow wo _ rfl (.tmp 19) (.tmp 21) rfl w.heap.size _ _ L l _ rfl rfl HO.out HB1.out HO1.out rfl (by have := HLn.out; omega) HB.out.size ?_)
        intro b4 c4 w4 hO4 hb4 _
        have HO4 := Lib.hid hO4
        have HB4 := Lib.hid ((HB.out.trans (HB1.out.mono HB.out.size)).trans hb4)
        clear hO4 hb4
        go_wp2
        go_roundw
        case rel => exact ⟨k + 1, b4, c4, by omega, by go_num, by rw [HN.out, List.length_append]; rfl, by show OwnM _ _ _ _; rw [HN.out, List.length_append]; exact HO4.out, HB4⟩
        case measure => simp [intOf]; omega
      · have HN : Hid (M.compsP (M.ent R) n (k + 1) = M.compsP (M.ent R) n k) := by show _ = _; rw [HNx.out, if_neg (by have := HRp.out; omega), List.append_nil]
        have hr2 : (x == (k : Int)) = false := by simpa using hr
        go_wp2
        go_roundw
        case rel => exact ⟨k + 1, b, c, by omega, by go_num, by rw [HN.out], by show OwnM _ _ _ _; rw [HN.out]; exact HO.out.below HB1.out, HB.out.trans (HB1.out.mono HB.out.size)⟩
        case measure => simp [intOf]; omega
    · obtain rfl : k = n := by omega
      go_wp2
      go_ret
      exact ⟨b, _, c, rfl, HO.out, HB.out⟩
set_option maxRecDepth 100000 in
set_option maxHeartbeats 400000 in
theorem componentsOfX (a : Option Addr) (n cap : Nat) (R : List (List Int)) (w : World) (h : Mat w a n R) :
    Calls Try.prog 12 #[.slice a n cap] w (MRes (M.cmpsRes R) w) := by
  have HA := Lib.hid h
  by_cases hs : M.sqB R = true
  · have HS := Lib.hid hs
    have HQ := Lib.hid (sq_of h hs)
    have HE : Hid (M.cmpsRes R = (M.compsL (M.ent R) n, 0)) := by show _ = _; unfold M.cmpsRes; rw [if_pos hs, h.1]
    clear h hs
    go_enter Try.func12, Try.ntmps12
    go_wp2_with fail
    refine (isSquare_b _ _ _ R _ true HS.out HA.out).mono ?_
    rintro e w' ⟨rfl, rfl⟩
    go_wp2_with fail
    refine (componentsOf _ _ _ R _ HQ.out).mono ?_
    rintro e w1 ⟨b1, m1, c1, rfl, ho, hb⟩
    have HO := Lib.hid ho
    have HB := Lib.hid hb
    clear ho hb
    go_wp2
    go_ret2
    rw [HE.out]
    exact ⟨_, _, _, rfl, HO.out, HB.out⟩
  · simp only [Bool.not_eq_true] at hs
    have HS := Lib.hid hs
    have HE : Hid (M.cmpsRes R = ([], 1)) := by show _ = _; unfold M.cmpsRes; rw [hs]; rfl
    clear h hs
    go_enter Try.func12, Try.ntmps12
    go_wp2_with fail
    refine (isSquare_b _ _ _ R _ false HS.out HA.out).mono ?_
    rintro e w' ⟨rfl, rfl⟩
    go_wp2
    go_ret2
    exact MRes.nil HE.out (Below.refl _ _)
set_option maxRecDepth 100000 in
set_option maxHeartbeats 400000 in
theorem isIrreducible (a : Option Addr) (n cap : Nat) (R : List (List Int)) (w : World) (h : Mat w a n R) :
    Calls Try.prog 17 #[.slice a n cap] w (BPost (M.irrRes R) w) := by
  have HA := Lib.hid h
  by_cases hs : M.sqB R = true
  · have HS := Lib.hid hs
    have HQ := Lib.hid (sq_of h hs)
    obtain ⟨n1, n2⟩ := (sq_of h hs).2.2.2
    obtain ⟨m, hm⟩ : ∃ m, m = (M.compL (M.ent R) n 0).length := ⟨_, rfl⟩
    have HE : Hid (M.irrRes R = (((m : Int) == (n : Int)), 0)) := by
      show _ = _
      unfold M.irrRes
      rw [if_pos hs, h.1, ← hm]
      congr 1
      by_cases e : m = n
      · subst e; simp
      · rw [decide_eq_false e]; symm; simp; omega
    have HM := Lib.hid hm.symm
    clear h hs hm
    go_enter Try.func17, Try.ntmps17
    go_wp2_with fail
    refine (isSquare_b _ _ _ R _ true HS.out HA.out).mono ?_
    rintro e w' ⟨rfl, rfl⟩
    go_wp2_with fail
    refine (componentOf _ _ _ R 0 _ HQ.out (by omega)).mono ?_
    rintro e w1 ⟨b1, c1, rfl, ho, hb⟩
    rw [HM.out]
    have HB := Lib.hid hb
    clear ho hb
    go_wp2
    go_ret2
    exact BPost.mk' HE.out HB.out
  · simp only [Bool.not_eq_true] at hs
    have HS := Lib.hid hs
    have HE : Hid (M.irrRes R = (false, 1)) := by show _ = _; unfold M.irrRes; rw [hs]; rfl
    clear h hs
    go_enter Try.func17, Try.ntmps17
    go_wp2_with fail
    refine (isSquare_b _ _ _ R _ false HS.out HA.out).mono ?_
    rintro e w' ⟨rfl, rfl⟩
    go_wp2
    go_ret2
    exact BPost.mk' HE.out (Below.refl _ _)
set_option maxRecDepth 100000 in
set_option maxHeartbeats 400000 in
theorem canReach (a : Option Addr) (n cap : Nat) (R : List (List Int)) (x y : Int) (w : World) (h : Mat w a n R) :
    Calls Try.prog 15 #[.slice a n cap, .int .i64 x, .int .i64 y] w (BPost (M.canRes R x y) w) := by
  have HA := Lib.hid h
  by_cases hs : M.sqB R = true
  · have HS := Lib.hid hs
    have HQ := Lib.hid (sq_of h hs)
    obtain ⟨n1, n2⟩ := (sq_of h hs).2.2.2
    have HLit : Hid (Ints .i64 (w.alloc (.cells #[.int .i64 x, .int .i64 y] 2)) (some ⟨w.heap.size, 0, none⟩) 2 [x, y]) :=
      (show Own (w.alloc (.cells #[.int .i64 x, .int .i64 y] 2)) w.heap.size (.slice (some ⟨w.heap.size, 0, none⟩) 2 2) [x, y] from World.ownsRow_lit w #[.int .i64 x, .int .i64 y] 2 (Nat.le_refl _) (by decide) rfl).ints'
    obtain ⟨c, hc⟩ : ∃ c, c = M.nodesB n [x, y] := ⟨_, rfl⟩
    have HC := Lib.hid hc.symm
    cases c with
    | true =>
      rw [M.nodes2, eq_comm, Bool.and_eq_true] at hc
      obtain ⟨k, hk, rfl⟩ := M.inN_k hc.1
      obtain ⟨t, ht, rfl⟩ := M.inN_k hc.2
      obtain ⟨r, hr⟩ : ∃ r, r = M.rchB (M.ent R) n k t := ⟨_, rfl⟩
      have HR := Lib.hid hr.symm
      have HE : Hid (M.canRes R k t = (r, 0)) := by
        show _ = _
        unfold M.canRes
        rw [if_pos hs, h.1, hc.1, hc.2, hr]; rfl
      clear h hs hc hr
      go_enter Try.func15, Try.ntmps15
      go_wp2_with fail
      refine (isSquare_b _ _ _ R _ true HS.out HA.out).mono ?_
      rintro e w' ⟨rfl, rfl⟩
      go_wp2_with fail
      refine (areNodes_b _ _ _ _ _ _ [(k : Int), (t : Int)] _ true HC.out (by omega) HLit.out).mono ?_
      rintro e w' ⟨rfl, rfl⟩
      go_wp2_with fail
      refine (reachedFrom _ _ _ R k _ (HQ.out.below (b_alloc _ _)) hk).mono ?_
      rintro e w1 ⟨b1, rfl, hlo, hst, hb⟩
      have hlk := hst.look n2 t ht
      rw [HR.out] at hlk
      have HB := Lib.hid ((b_alloc w (.cells #[.int .i64 (k : Int), .int .i64 (t : Int)] 2)).trans (hb.mono (by simp)))
      clear hst hb
      go_wp2
      go_ret2
      exact BPost.mk' HE.out HB.out
    | false =>
      have HE : Hid (M.canRes R x y = (false, 2)) := by
        show _ = _
        unfold M.canRes
        rw [if_pos hs, h.1, ← M.nodes2, ← hc]; rfl
      clear h hs hc
      go_enter Try.func15, Try.ntmps15
      go_wp2_with fail
      refine (isSquare_b _ _ _ R _ true HS.out HA.out).mono ?_
      rintro e w' ⟨rfl, rfl⟩
      go_wp2_with fail
      refine (areNodes_b _ _ _ _ _ _ [x, y] _ false HC.out (by omega) HLit.out).mono ?_
      rintro e w' ⟨rfl, rfl⟩
      go_wp2
      go_ret2
      exact BPost.mk' HE.out (b_alloc _ _)
  · simp only [Bool.not_eq_true] at hs
    have HS := Lib.hid hs
    have HE : Hid (M.canRes R x y = (false, 1)) := by show _ = _; unfold M.canRes; rw [hs]; rfl
    clear h hs
    go_enter Try.func15, Try.ntmps15
    go_wp2_with fail
    refine (isSquare_b _ _ _ R _ false HS.out HA.out).mono ?_
    rintro e w' ⟨rfl, rfl⟩
    go_wp2
    go_ret2
    exact BPost.mk' HE.out (Below.refl _ _)
end V
end Go.Proofs.Ytmldjmlihkcchab

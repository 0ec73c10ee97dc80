/- Texts laid together: Cmo, Cps, MatH. -/
import Derived.Test.YthonlfjjgmmnpabQe10
import Derived.Test.YthonlfjjgmmnpabQe11
import Derived.Test.YthonlfjjgmmnpabQe1
namespace Go.Proofs.Ythonlfjjgmmnpab.V
set_option maxRecDepth 100000
open Go.RowKit Go.Maps
set_option maxRecDepth 100000 in
set_option maxHeartbeats 2000000 in
theorem componentOf (a : Option Addr) (n cap : Nat) (R : List (List Int)) (v : Nat) (w : World) (h : Sq w a n R) (hv : v < n) :
    Calls Try.prog 53 #[.slice a n cap, .int .i64 v] w fun e w' => ∃ b c, e = .returned (.slice b (M.compL (M.ent R) n v).length c) ∧ Own w' w.heap.size (.slice b (M.compL (M.ent R) n v).length c) (M.compL (M.ent R) n v) ∧ Below w.heap.size w w' := by
  have HSq := Lib.hid h
  obtain ⟨n1, n2⟩ := h.2.2.2
  clear h
  go_enter Try.func53, Try.ntmps53
  go_wp2_with fail
  refine (reachedFrom _ _ _ R v _ HSq.out hv).mono ?_
  rintro e w1 ⟨b1, rfl, hlo, hs, hb⟩
  have HS1 := Lib.hid hs
  have HB1 := Lib.hid hb
  clear hs hb
  go_wp2_with fail
  refine (reaching _ _ _ R v _ (HSq.out.below HB1.out) hv).mono ?_
  rintro e w2 ⟨b2, rfl, hlo2, hs, hb⟩
  have HS2 := Lib.hid hs
  have HS12 := Lib.hid (HS1.out.below hb HS1.out.lt)
  have HB2 := Lib.hid (HB1.out.trans (hb.mono HB1.out.size))
  clear hs hb HS1 HB1
  go_wp2
  go_loopw [7, 8, 17] (fun o _ i wr => ∃ (k : Nat) (b : Option Addr) (c : Nat), k ≤ n ∧ i = .int .i64 k ∧ o = .slice b (M.compP (M.ent R) n v k).length c ∧ Hid (Own wr w2.heap.size (.slice b (M.compP (M.ent R) n v k).length c) (M.compP (M.ent R) n v k)) ∧ Hid (Below w2.heap.size w2 wr)) (fun _ _ i _ => n - (intOf i).toNat)
  case atStart => exact ⟨0, none, 0, Nat.zero_le _, rfl, rfl, own_nil _ _, Below.refl _ _⟩
  case round =>
    obtain ⟨k, b, c, hk, rfl, rfl, HO, HB⟩ := hrel
    by_cases hlt : k < n
    · have hki : (k : Int) < (n : Int) := by omega
      have HL1 := (HS12.out.below HB.out HS12.out.lt).look n2 k hlt
      have HL2 : (Instr.lookup 71 (.map (some b2)) (.int .i64 (k : Int)) false).run Try.prog wr = .ok (.bool (M.rchB (M.ent R) n k v)) wr := (HS2.out.below HB.out HS2.out.lt).look n2 k hlt
      have hnx := M.compP_next (M.ent R) n v k
      have hrel : M.relB (M.ent R) n v k = (M.rchB (M.ent R) n v k && M.rchB (M.ent R) n k v) := rfl
      have hlen := M.compP_len (M.ent R) n v k
      obtain ⟨x, hx⟩ : ∃ x, x = M.rchB (M.ent R) n v k := ⟨_, rfl⟩
      obtain ⟨y, hy⟩ : ∃ y, y = M.rchB (M.ent R) n k v := ⟨_, rfl⟩
      rw [← hy] at HL2
      rw [← hx] at HL1 hrel
      rw [← hy] at hrel
      rw [hrel] at hnx
      clear hx hy hrel
      cases x with
      | false =>
        have HN : Hid (M.compP (M.ent R) n v (k + 1) = M.compP (M.ent R) n v k) := by show _ = _; rw [hnx]; simp
        clear hnx
        go_wp2
        go_roundw
        case rel => exact ⟨k + 1, b, c, by omega, by go_num, by rw [HN.out], by show Own _ _ _ _; rw [HN.out]; exact HO.out, HB⟩
        case measure => simp [intOf]; omega
      | true =>
        cases y with
        | false =>
          have HN : Hid (M.compP (M.ent R) n v (k + 1) = M.compP (M.ent R) n v k) := by show _ = _; rw [hnx]; simp
          clear hnx
          go_wp2
          go_roundw
          case rel => exact ⟨k + 1, b, c, by omega, by go_num, by rw [HN.out], by show Own _ _ _ _; rw [HN.out]; exact HO.out, HB⟩
          case measure => simp [intOf]; omega
        | true =>
          have HN : Hid (M.compP (M.ent R) n v (k + 1) = M.compP (M.ent R) n v k ++ [(k : Int)]) := by show _ = _; rw [hnx]; simp
          clear hnx
          generalize M.compP (M.ent R) n v k = l at *
          go_wp2_with (at_builtin; refine append1 _ rfl (.tmp 28) (.tmp 30) rfl w2.heap.size _ l (k : Int) _ rfl rfl HO.out rfl (by omega) HB.out.size ?_)
          intro b4 c4 w4 hO4 hb4 _
          have HO4 := Lib.hid hO4
          have HB4 := Lib.hid (HB.out.trans hb4)
          rw [← HN.out] at HO4
          clear hO4 hb4
          go_wp2
          go_roundw
          case rel => exact ⟨k + 1, b4, c4, by omega, by go_num, by rw [HN.out, List.length_append]; rfl, by show Own _ _ _ _; rw [HN.out, List.length_append]; rw [HN.out] at HO4; exact HO4.out, HB4⟩
          case measure => simp [intOf]; omega
    · obtain rfl : k = n := by omega
      go_wp2
      go_ret
      exact ⟨b, c, rfl, HO.out.mono HB2.out.size, HB2.out.trans (HB.out.mono HB2.out.size)⟩
end Go.Proofs.Ythonlfjjgmmnpab.V

namespace Go.Proofs.Ythonlfjjgmmnpab
namespace M
def canRes (R : List (List Int)) (x y : Int) : Bool × Int := if sqB R then (if inN R.length x && inN R.length y then (rchB (ent R) R.length x.toNat y.toNat, 0) else (false, 2)) else (false, 1)
def cmpsRes (R : List (List Int)) : List (List Int) × Int := if sqB R then (compsL (ent R) R.length, 0) else ([], 1)
def irrRes (R : List (List Int)) : Bool × Int := if sqB R then (decide ((compL (ent R) R.length 0).length = R.length), 0) else (false, 1)
theorem nodes2 (n : Nat) (x y : Int) : nodesB n [x, y] = (inN n x && inN n y) := by unfold nodesB; simp
theorem inN_k {n : Nat} {x : Int} (h : inN n x = true) : ∃ k : Nat, k < n ∧ x = k := by
  unfold inN at h
  rw [Bool.and_eq_true, decide_eq_true_eq, decide_eq_true_eq] at h
  exact ⟨x.toNat, by omega, by omega⟩
end M
namespace V
open Go.RowKit Go.Maps
def BPost (r : Bool × Int) (w : World) (e : Ending) (w' : World) : Prop := e = .returned (.tuple #[.bool r.1, .int .i64 r.2]) ∧ Below w.heap.size w w'
theorem BPost.mk' {r : Bool × Int} {b : Bool} {c : Int} {w w' : World} (hr : r = (b, c)) (hb : Below w.heap.size w w') : BPost r w (.returned (.tuple #[.bool b, .int .i64 c])) w' := by subst hr; exact ⟨rfl, hb⟩
set_option maxRecDepth 100000 in
set_option maxHeartbeats 2000000 in
theorem componentsOf (a : Option Addr) (n cap : Nat) (R : List (List Int)) (w : World) (h : Sq w a n R) :
    Calls Try.prog 45 #[.slice a n cap] w fun e w' => ∃ b m c, e = .returned (.slice b m c) ∧ OwnM w' w.heap.size (.slice b m c) (M.compsL (M.ent R) n) ∧ Below w.heap.size w w' := by
  have HSq := Lib.hid h
  obtain ⟨n1, n2⟩ := h.2.2.2
  clear h
  go_enter Try.func45, Try.ntmps45
  go_wp2
  go_loopw [3, 4, 5, 8] (fun o _ _ i wr => ∃ (k : Nat) (b : Option Addr) (c : Nat), k ≤ n ∧ i = .int .i64 k ∧ o = .slice b (M.compsP (M.ent R) n k).length c ∧ Hid (OwnM wr w.heap.size (.slice b (M.compsP (M.ent R) n k).length c) (M.compsP (M.ent R) n k)) ∧ Hid (Below w.heap.size w wr)) (fun _ _ _ i _ => n - (intOf i).toNat)
  case atStart => exact ⟨0, none, 0, Nat.zero_le _, rfl, rfl, ownM_nil _ _, Below.refl _ _⟩
  case round =>
    obtain ⟨k, b, c, hk, rfl, rfl, HO, HB⟩ := hrel
    obtain ⟨wo, rfl⟩ : ∃ x, x = wr := ⟨_, rfl⟩
    by_cases hlt : k < n
    · have hki : (k : Int) < (n : Int) := by omega
      have HNx := Lib.hid (M.compsP_next (M.ent R) n k)
      have HLn := Lib.hid (M.compsP_len (M.ent R) n k)
      go_wp2_with fail
      refine (componentOf _ _ _ R k _ (HSq.out.below HB.out) hlt).mono ?_
      rintro e w1 ⟨b1, c1, rfl, ho, hb⟩
      have HO1 := Lib.hid ho
      have HB1 := Lib.hid hb
      obtain ⟨d, od, x, rfl, -, hx, cx⟩ := ho.ints'.at 0 (M.compL_pos hlt)
      rw [Nat.add_zero] at cx
      have hrep := (M.rep_t (A := M.ent R) hlt).2.2
      rw [← hx] at hrep
      have HRp := Lib.hid hrep
      have hlen1 : (M.compL (M.ent R) n k).length ≤ 10 := by have := M.compP_len (M.ent R) n k n; unfold M.compL; omega
      have hlen0 := M.compL_pos (A := M.ent R) hlt
      clear ho hb hx hrep
      generalize M.compL (M.ent R) n k = l at *
      by_cases hr : x = (k : Int)
      · have HN : Hid (M.compsP (M.ent R) n (k + 1) = M.compsP (M.ent R) n k ++ [l]) := by show _ = _; rw [HNx.out, if_pos (by have := HRp.out; omega)]
        have hr2 : (x == (k : Int)) = true := by simp [hr]
        clear hr
        generalize M.compsP (M.ent R) n k = L at *
        go_wp2_with (at_builtin; refine appendRow wo _ rfl (.tmp 19) (.tmp 21) rfl w.heap.size _ _ L l _ rfl rfl HO.out HB1.out HO1.out rfl (by have := HLn.out; omega) HB.out.size ?_)
        intro b4 c4 w4 hO4 hb4 _
        have HO4 := Lib.hid hO4
        have HB4 := Lib.hid ((HB.out.trans (HB1.out.mono HB.out.size)).trans hb4)
        clear hO4 hb4
        go_wp2
        go_roundw
        case rel => exact ⟨k + 1, b4, c4, by omega, by go_num, by rw [HN.out, List.length_append]; rfl, by show OwnM _ _ _ _; rw [HN.out, List.length_append]; exact HO4.out, HB4⟩
        case measure => simp [intOf]; omega
      · have HN : Hid (M.compsP (M.ent R) n (k + 1) = M.compsP (M.ent R) n k) := by show _ = _; rw [HNx.out, if_neg (by have := HRp.out; omega), List.append_nil]
        have hr2 : (x == (k : Int)) = false := by simpa using hr
        go_wp2
        go_roundw
        case rel => exact ⟨k + 1, b, c, by omega, by go_num, by rw [HN.out], by show OwnM _ _ _ _; rw [HN.out]; exact HO.out.below HB1.out, HB.out.trans (HB1.out.mono HB.out.size)⟩
        case measure => simp [intOf]; omega
    · obtain rfl : k = n := by omega
      go_wp2
      go_ret
      exact ⟨b, _, c, rfl, HO.out, HB.out⟩
set_option maxRecDepth 100000 in
set_option maxHeartbeats 400000 in
theorem componentsOfX (a : Option Addr) (n cap : Nat) (R : List (List Int)) (w : World) (h : Mat w a n R) :
    Calls Try.prog 18 #[.slice a n cap] w (MRes (M.cmpsRes R) w) := by
  have HA := Lib.hid h
  by_cases hs : M.sqB R = true
  · have HS := Lib.hid hs
    have HQ := Lib.hid (sq_of h hs)
    have HE : Hid (M.cmpsRes R = (M.compsL (M.ent R) n, 0)) := by show _ = _; unfold M.cmpsRes; rw [if_pos hs, h.1]
    clear h hs
    go_enter Try.func18, Try.ntmps18
    go_wp2_with fail
    refine (isSquare_b _ _ _ R _ true HS.out HA.out).mono ?_
    rintro e w' ⟨rfl, rfl⟩
    go_wp2_with fail
    refine (componentsOf _ _ _ R _ HQ.out).mono ?_
    rintro e w1 ⟨b1, m1, c1, rfl, ho, hb⟩
    have HO := Lib.hid ho
    have HB := Lib.hid hb
    clear ho hb
    go_wp2
    go_ret2
    rw [HE.out]
    exact ⟨_, _, _, rfl, HO.out, HB.out⟩
  · simp only [Bool.not_eq_true] at hs
    have HS := Lib.hid hs
    have HE : Hid (M.cmpsRes R = ([], 1)) := by show _ = _; unfold M.cmpsRes; rw [hs]; rfl
    clear h hs
    go_enter Try.func18, Try.ntmps18
    go_wp2_with fail
    refine (isSquare_b _ _ _ R _ false HS.out HA.out).mono ?_
    rintro e w' ⟨rfl, rfl⟩
    go_wp2
    go_ret2
    exact MRes.nil HE.out (Below.refl _ _)
set_option maxRecDepth 100000 in
set_option maxHeartbeats 400000 in
theorem isIrreducible (a : Option Addr) (n cap : Nat) (R : List (List Int)) (w : World) (h : Mat w a n R) :
    Calls Try.prog 23 #[.slice a n cap] w (BPost (M.irrRes R) w) := by
  have HA := Lib.hid h
  by_cases hs : M.sqB R = true
  · have HS := Lib.hid hs
    have HQ := Lib.hid (sq_of h hs)
    obtain ⟨n1, n2⟩ := (sq_of h hs).2.2.2
    obtain ⟨m, hm⟩ : ∃ m, m = (M.compL (M.ent R) n 0).length := ⟨_, rfl⟩
    have HE : Hid (M.irrRes R = (((m : Int) == (n : Int)), 0)) := by
      show _ = _
      unfold M.irrRes
      rw [if_pos hs, h.1, ← hm]
      congr 1
      by_cases e : m = n
      · subst e; simp
      · rw [decide_eq_false e]; symm; simp; omega
    have HM := Lib.hid hm.symm
    clear h hs hm
    go_enter Try.func23, Try.ntmps23
    go_wp2_with fail
    refine (isSquare_b _ _ _ R _ true HS.out HA.out).mono ?_
    rintro e w' ⟨rfl, rfl⟩
    go_wp2_with fail
    refine (componentOf _ _ _ R 0 _ HQ.out (by omega)).mono ?_
    rintro e w1 ⟨b1, c1, rfl, ho, hb⟩
    rw [HM.out]
    have HB := Lib.hid hb
    clear ho hb
    go_wp2
    go_ret2
    exact BPost.mk' HE.out HB.out
  · simp only [Bool.not_eq_true] at hs
    have HS := Lib.hid hs
    have HE : Hid (M.irrRes R = (false, 1)) := by show _ = _; unfold M.irrRes; rw [hs]; rfl
    clear h hs
    go_enter Try.func23, Try.ntmps23
    go_wp2_with fail
    refine (isSquare_b _ _ _ R _ false HS.out HA.out).mono ?_
    rintro e w' ⟨rfl, rfl⟩
    go_wp2
    go_ret2
    exact BPost.mk' HE.out (Below.refl _ _)
set_option maxRecDepth 100000 in
set_option maxHeartbeats 400000 in
theorem canReach (a : Option Addr) (n cap : Nat) (R : List (List Int)) (x y : Int) (w : World) (h : Mat w a n R) :
    Calls Try.prog 21 #[.slice a n cap, .int .i64 x, .int .i64 y] w (BPost (M.canRes R x y) w) := by
  have HA := Lib.hid h
  by_cases hs : M.sqB R = true
  · have HS := Lib.hid hs
    have HQ := Lib.hid (sq_of h hs)
    obtain ⟨n1, n2⟩ := (sq_of h hs).2.2.2
    have HLit : Hid (Ints .i64 (w.alloc (.cells #[.int .i64 x, .int .i64 y] 2)) (some ⟨w.heap.size, 0, none⟩) 2 [x, y]) :=
      (show Own (w.alloc (.cells #[.int .i64 x, .int .i64 y] 2)) w.heap.size (.slice (some ⟨w.heap.size, 0, none⟩) 2 2) [x, y] from World.ownsRow_lit w #[.int .i64 x, .int .i64 y] 2 (Nat.le_refl _) (by decide) rfl).ints'
    obtain ⟨c, hc⟩ : ∃ c, c = M.nodesB n [x, y] := ⟨_, rfl⟩
    have HC := Lib.hid hc.symm
    cases c with
    | true =>
      rw [M.nodes2, eq_comm, Bool.and_eq_true] at hc
      obtain ⟨k, hk, rfl⟩ := M.inN_k hc.1
      obtain ⟨t, ht, rfl⟩ := M.inN_k hc.2
      obtain ⟨r, hr⟩ : ∃ r, r = M.rchB (M.ent R) n k t := ⟨_, rfl⟩
      have HR := Lib.hid hr.symm
      have HE : Hid (M.canRes R k t = (r, 0)) := by
        show _ = _
        unfold M.canRes
        rw [if_pos hs, h.1, hc.1, hc.2, hr]; rfl
      clear h hs hc hr
      go_enter Try.func21, Try.ntmps21
      go_wp2_with fail
      refine (isSquare_b _ _ _ R _ true HS.out HA.out).mono ?_
      rintro e w' ⟨rfl, rfl⟩
      go_wp2_with fail
      refine (areNodes_b _ _ _ _ _ _ [(k : Int), (t : Int)] _ true HC.out (by omega) HLit.out).mono ?_
      rintro e w' ⟨rfl, rfl⟩
      go_wp2_with fail
      refine (reachedFrom _ _ _ R k _ (HQ.out.below (b_alloc _ _)) hk).mono ?_
      rintro e w1 ⟨b1, rfl, hlo, hst, hb⟩
      have hlk := hst.look n2 t ht
      rw [HR.out] at hlk
      have HB := Lib.hid ((b_alloc w (.cells #[.int .i64 (k : Int), .int .i64 (t : Int)] 2)).trans (hb.mono (by simp)))
      clear hst hb
      go_wp2
      go_ret2
      exact BPost.mk' HE.out HB.out
    | false =>
      have HE : Hid (M.canRes R x y = (false, 2)) := by
        show _ = _
        unfold M.canRes
        rw [if_pos hs, h.1, ← M.nodes2, ← hc]; rfl
      clear h hs hc
      go_enter Try.func21, Try.ntmps21
      go_wp2_with fail
      refine (isSquare_b _ _ _ R _ true HS.out HA.out).mono ?_
      rintro e w' ⟨rfl, rfl⟩
      go_wp2_with fail
      refine (areNodes_b _ _ _ _ _ _ [x, y] _ false HC.out (by omega) HLit.out).mono ?_
      rintro e w' ⟨rfl, rfl⟩
      go_wp2
      go_ret2
      exact BPost.mk' HE.out (b_alloc _ _)
  · simp only [Bool.not_eq_true] at hs
    have HS := Lib.hid hs
    have HE : Hid (M.canRes R x y = (false, 1)) := by show _ = _; unfold M.canRes; rw [hs]; rfl
    clear h hs
    go_enter Try.func21, Try.ntmps21
    go_wp2_with fail
    refine (isSquare_b _ _ _ R _ false HS.out HA.out).mono ?_
    rintro e w' ⟨rfl, rfl⟩
    go_wp2
    go_ret2
    exact BPost.mk' HE.out (Below.refl _ _)
end V
end Go.Proofs.Ythonlfjjgmmnpab

namespace Go.Proofs.Ythonlfjjgmmnpab
namespace M
/-- The least number from k on that fits, within so many. -/
def lv (p : Nat → Bool) : Nat → Nat → Nat
  | 0, k => k
  | f + 1, k => if p k then k else lv p f (k + 1)
theorem lv_is {p : Nat → Bool} {m : Nat} (hm : p m = true) (f : Nat) : ∀ k, k ≤ m → m < k + f → (∀ v, k ≤ v → v < m → p v = false) → lv p f k = m := by
  induction f with
  | zero => intro k h1 h2; omega
  | succ f ih =>
    intro k h1 h2 h3
    by_cases e : k = m
    · subst e; show (if p k then k else _) = _; rw [if_pos hm]
    · show (if p k then k else _) = _
      rw [h3 k (Nat.le_refl _) (by omega), if_neg (by simp)]
      exact ih (k + 1) (by omega) (by omega) fun v h4 h5 => h3 v (by omega) h5
theorem lv_ex {p : Nat → Bool} {n : Nat} (h : ∃ m, m < n ∧ p m = true) : p (lv p n 0) = true ∧ lv p n 0 < n ∧ ∀ v, v < lv p n 0 → p v = false := by
  have key : ∀ n, (∃ m, m < n ∧ p m = true) → ∃ m, m < n ∧ p m = true ∧ ∀ v, v < m → p v = false := by
    intro n
    induction n with
    | zero => rintro ⟨m, hm, _⟩; omega
    | succ n ih =>
      rintro ⟨m, hm, hp⟩
      by_cases e : ∃ m, m < n ∧ p m = true
      · obtain ⟨m, h1, h2, h3⟩ := ih e
        exact ⟨m, by omega, h2, h3⟩
      · refine ⟨m, hm, hp, fun v hv => ?_⟩
        cases h : p v with
        | false => rfl
        | true => exact absurd ⟨v, by omega, h⟩ e
  obtain ⟨m, h1, h2, h3⟩ := key n h
  rw [lv_is h2 n 0 (Nat.zero_le _) (by omega) fun v _ hv => h3 v hv]
  exact ⟨h2, h1, h3⟩
/-- Whether a heaviest path with s + 1 arcs goes on from x by v. -/
def stepB (A : Nat → Nat → Int) (n t s x v : Nat) : Bool := decide (times (cpw A n s t v) (A v x) = cpw A n (s + 1) t x)
def nxt (A : Nat → Nat → Int) (n t s x : Nat) : Nat := lv (stepB A n t s x) n 0
/-- The number of arcs. -/
def arcs (A : Nat → Nat → Int) (n f t : Nat) : Nat := lv (fun s => decide (cpw A n s t f = starF A n t f)) 11 0
/-- The nodes of the path. -/
def xs (A : Nat → Nat → Int) (n t s f : Nat) : Nat → Nat
  | 0 => f
  | k + 1 => nxt A n t (s - 1 - k) (xs A n t s f k)
def hvL (A : Nat → Nat → Int) (n t s f : Nat) (k : Nat) : List Int := (List.range k).map fun i => ((xs A n t s f i : Nat) : Int)
def heavyRes (R : List (List Int)) (f t : Int) : List Int × Int :=
  if sqB R then (if inN R.length f && inN R.length t then (if noPos (ent R) R.length then (if starF (ent R) R.length t.toNat f.toNat = -1000000000000000 then ([], 4)
    else (hvL (ent R) R.length t.toNat (arcs (ent R) R.length f.toNat t.toNat) f.toNat (arcs (ent R) R.length f.toNat t.toNat + 1), 0)) else ([], 5)) else ([], 2)) else ([], 1)
theorem hvL_len (A : Nat → Nat → Int) (n t s f k : Nat) : (hvL A n t s f k).length = k := by simp [hvL]
theorem hvL_succ (A : Nat → Nat → Int) (n t s f k : Nat) : hvL A n t s f (k + 1) = hvL A n t s f k ++ [((xs A n t s f k : Nat) : Int)] := by
  unfold hvL; rw [List.range_succ]; simp
theorem hvL_at (A : Nat → Nat → Int) (n t s f k i : Nat) (h : i < k) : (hvL A n t s f k).getD i 0 = ((xs A n t s f i : Nat) : Int) := by
  simp [hvL, h]
theorem lv_le (p : Nat → Bool) (f : Nat) : ∀ k, lv p f k ≤ k + f := by
  induction f with
  | zero => intro k; exact Nat.le_refl _
  | succ f ih =>
    intro k
    show (if p k then k else _) ≤ _
    split
    · omega
    · have := ih (k + 1); omega
theorem heavyRes_len (R : List (List Int)) (f t : Int) : (heavyRes R f t).1.length ≤ 12 := by
  unfold heavyRes
  split
  · split
    · split
      · split
        · simp
        · rw [hvL_len]
          have := lv_le (fun s => decide (cpw (ent R) R.length s t.toNat f.toNat = starF (ent R) R.length t.toNat f.toNat)) 11 0
          unfold arcs
          omega
      · simp
    · simp
  · simp
section
variable {A : Nat → Nat → Int} {n : Nat} (hn : n ≤ 10) (hA : ∀ i j, i < n → j < n → Sm 1000001000000 (A i j))
include hn hA
/-- There is a number of arcs with which the weight in the star is reached. -/
theorem arcs_is (hp : noPos A n = true) {f t : Nat} (hf : f < n) (ht : t < n) (h : starF A n t f ≠ -1000000000000000) :
    cpw A n (arcs A n f t) t f = starF A n t f ∧ arcs A n f t ≤ 10 ∧ ∀ s, s < arcs A n f t → cpw A n s t f ≠ starF A n t f := by
  have hd := o_diag hn hA hp
  have e1 : o (starF A n t f) = obm (fun i j => o (A i j)) n n t f := by
    unfold starF
    rw [← clo_star hn hA hp ht hf, o_cbm hA n (by omega) t f ht hf]
  obtain ⟨s, hs, hle⟩ := opw_star (f := fun i j => o (A i j)) ht hf (by rw [← e1]; exact fun e => h (o_none.1 e))
  have hge := opw_le hd ht hf s
  have e2 := ole_anti hge hle
  rw [← o_cpw hA s (by omega) t f ht hf, ← e1] at e2
  have e3 := o_inj e2
  obtain ⟨h1, h2, h3⟩ := lv_ex (p := fun s => decide (cpw A n s t f = starF A n t f)) (n := 11) ⟨s, by omega, by simpa using e3⟩
  refine ⟨of_decide_eq_true h1, by unfold arcs; omega, fun s hs => ?_⟩
  have := h3 s hs
  simpa using this
end
section
variable {A : Nat → Nat → Int} {n : Nat} (hA : ∀ i j, i < n → j < n → Sm 1000001000000 (A i j))
include hA
/-- A heaviest path with more than no arcs goes on. -/
theorem nxt_is {t s x : Nat} (hs : s ≤ 10) (ht : t < n) (hx : x < n) (h : cpw A n (s + 1) t x ≠ -1000000000000000) :
    nxt A n t s x < n ∧ times (cpw A n s t (nxt A n t s x)) (A (nxt A n t s x) x) = cpw A n (s + 1) t x ∧ ∀ v, v < nxt A n t s x → times (cpw A n s t v) (A v x) ≠ cpw A n (s + 1) t x := by
  have hex : ∃ v, v < n ∧ stepB A n t s x v = true := by
    have e := o_cpw hA (s + 1) (by omega) t x ht hx
    rcases osum_att n (fun u => omul (opw (fun i j => o (A i j)) n s t u) (o (A u x))) with k | ⟨u, hu, k⟩
    · exact absurd (o_none.1 (e.trans k)) h
    · refine ⟨u, hu, ?_⟩
      unfold stepB
      rw [decide_eq_true_eq]
      refine o_inj ?_
      rw [o_times (cpw_sm hA s t u ht hu) (hA u x hu hx) (by omega) (by omega), o_cpw hA s (by omega) t u ht hu]
      exact (e.trans k).symm
  obtain ⟨h1, h2, h3⟩ := lv_ex hex
  refine ⟨h2, of_decide_eq_true h1, fun v hv => ?_⟩
  have := h3 v hv
  simpa [stepB] using this
theorem nxt_fin {t s x : Nat} (hs : s ≤ 10) (ht : t < n) (hx : x < n) (h : cpw A n (s + 1) t x ≠ -1000000000000000) :
    cpw A n s t (nxt A n t s x) ≠ -1000000000000000 ∧ A (nxt A n t s x) x ≠ -1000000000000000 := by
  obtain ⟨h1, h2, -⟩ := nxt_is hA hs ht hx h
  refine ⟨fun e => h ?_, fun e => h ?_⟩
  · rw [← h2, e, bot_times]
  · rw [← h2, e, times_bot]
/-- Along the path the rest stays a heaviest one. -/
theorem xs_inv {t s f : Nat} (hs : s ≤ 10) (ht : t < n) (hf : f < n) (h : cpw A n s t f ≠ -1000000000000000) (k : Nat) (hk : k ≤ s) :
    xs A n t s f k < n ∧ cpw A n (s - k) t (xs A n t s f k) ≠ -1000000000000000 := by
  induction k with
  | zero => exact ⟨hf, h⟩
  | succ k ih =>
    obtain ⟨h1, h2⟩ := ih (by omega)
    have e : s - k = s - 1 - k + 1 := by omega
    rw [e] at h2
    show nxt A n t (s - 1 - k) (xs A n t s f k) < n ∧ cpw A n (s - (k + 1)) t (nxt A n t (s - 1 - k) (xs A n t s f k)) ≠ _
    rw [show s - (k + 1) = s - 1 - k by omega]
    exact ⟨(nxt_is hA (by omega) ht h1 h2).1, (nxt_fin hA (by omega) ht h1 h2).1⟩
/-- What is left of the weight. -/
theorem xs_need {t s f : Nat} (hs : s ≤ 10) (ht : t < n) (hf : f < n) (h : cpw A n s t f ≠ -1000000000000000) (k : Nat) (hk : k < s) :
    cpw A n (s - (k + 1)) t (xs A n t s f (k + 1)) = cpw A n (s - k) t (xs A n t s f k) - A (xs A n t s f (k + 1)) (xs A n t s f k) := by
  obtain ⟨h1, h2⟩ := xs_inv hA hs ht hf h k (by omega)
  have e : s - k = s - 1 - k + 1 := by omega
  rw [e] at h2
  have h3 := (nxt_is hA (by omega) ht h1 h2).2.1
  have h4 := nxt_fin hA (by omega) ht h1 h2
  rw [show s - (k + 1) = s - 1 - k by omega, e]
  show cpw A n (s - 1 - k) t (nxt A n t (s - 1 - k) (xs A n t s f k)) = _ - A (nxt A n t (s - 1 - k) (xs A n t s f k)) _
  unfold times at h3
  rw [if_neg (by rintro (e | e); exact h4.1 e; exact h4.2 e)] at h3
  omega
theorem xs_end {t s f : Nat} (hs : s ≤ 10) (ht : t < n) (hf : f < n) (h : cpw A n s t f ≠ -1000000000000000) : xs A n t s f s = t := by
  obtain ⟨h1, h2⟩ := xs_inv hA hs ht hf h s (Nat.le_refl _)
  rw [Nat.sub_self] at h2
  have h2 : unit t (xs A n t s f s) ≠ -1000000000000000 := h2
  unfold unit at h2
  split at h2
  · next e => exact e.symm
  · exact absurd rfl h2
end
end M
end Go.Proofs.Ythonlfjjgmmnpab

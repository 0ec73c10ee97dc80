/- Texts laid together: Mat2, Cmo, Cps, CpO, Draw1, Draw2, DrawM, DrawM2, DrawPw, DrawV. -/
import Derived.Test.YtcofjjipjcekjaaRows
import Derived.Test.YtcofjjipjcekjaaQa1
import Derived.Test.YtcofjjipjcekjaaQa2
import Derived.WalkKit
import Derived.ProofKit
import Derived.WalkSmall
import Derived.Deep.QuietTactic
import Derived.BigQuiet
import Derived.BigRegion
import Derived.Deep.Draws
import Derived.Lib.Hide
import Derived.OpenShut
import Derived.Deep.OwnRows
import Derived.Test.YtcofjjipjcekjaaQa10
import Derived.Test.YtcofjjipjcekjaaQa11
import Derived.Deep.RegionHeld3
import Derived.Maps.AppendAt
set_option linter.unusedSimpArgs false
set_option linter.unusedVariables false
set_option linter.unusedSectionVars false
namespace Go.Proofs.Ytcofjjipjcekjaa.V
open Go.RowKit

set_option maxRecDepth 100000 in
set_option maxHeartbeats 400000 in
theorem eqIntss (a : Option Addr) (n cap : Nat) (R : List (List Int)) (a' : Option Addr) (n' cap' : Nat) (R' : List (List Int)) (w : World) (h : Mat w a n R) (h' : Mat w a' n' R') (heq : R = R') :
    Calls Try.prog 31 #[.slice a n cap, .slice a' n' cap'] w fun e w' => e = .returned (.bool true) ∧ ∃ q, w' = w.drewN q := by
  subst heq
  have HM := Lib.hid h
  have HM' := Lib.hid h'
  obtain ⟨hl, hm, -⟩ := h
  obtain ⟨hl', -, -⟩ := h'
  obtain rfl : n = n' := by omega
  unfold maxLen at hm
  have HL := Lib.hid hl
  clear hl hl'
  go_enter Try.func31, Try.ntmps31
  go_wp2
  go_loopw [5] (fun i wr => ∃ k : Nat, k ≤ n ∧ i = .int .i64 k ∧ ∃ q, wr = w.drewN q) (fun i _ => n - (intOf i).toNat)
  case atStart => exact ⟨0, Nat.zero_le _, rfl, 0, rfl⟩
  case round =>
    obtain ⟨k, hk, rfl, q, rfl⟩ := hrel
    by_cases hlt : k < n
    · obtain ⟨b, off, ra, rc, L, l, rfl, hbl, hll, hc, hI⟩ := HM.out.at k hlt
      obtain ⟨b', off', ra', rc', L', l', rfl, hbl', hll', hc', hI'⟩ := HM'.out.at k hlt
      have HI := Lib.hid hI
      have HI' := Lib.hid hI'
      have HE := Lib.hid (hll.trans hll'.symm)
      clear hI hI' hll hll' HM HM'
      have hki : (k : Int) < (n : Int) := by omega
      go_wp2
      go_quiet ((go_at_call 40; exact q_more (eqInts _ _ _ l _ _ _ l' _ HI.out HI'.out HE.out)))
      go_wp2
      go_roundw
      case rel => exact ⟨k + 1, by omega, by go_num, _, rfl⟩
      case measure => simp [intOf]; omega
    · have hkn : k = n := by omega
      subst hkn
      go_wp2
      go_ret
      exact ⟨rfl, q, rfl⟩

set_option maxRecDepth 100000 in
set_option maxHeartbeats 400000 in
theorem copyIntss (a : Option Addr) (n cap : Nat) (R : List (List Int)) (w : World) (h : Mat w a n R) (hs : n ≤ 1048576) (hr : M.pre R R.length ≤ 1048576) :
    Calls Try.prog 30 #[.slice a n cap] w fun e w' => e = .returned (.slice (some ⟨w.heap.size, 0, none⟩) n n) ∧ OwnM w' w.heap.size (.slice (some ⟨w.heap.size, 0, none⟩) n n) R ∧ Below w.heap.size w w' := by
  have HM := Lib.hid h
  obtain ⟨hl, hm, -⟩ := h
  have hm2 := hm
  unfold maxLen at hm
  have HL := Lib.hid hl
  have HR := Lib.hid hr
  clear hl hr
  have hmk := run_make_row' (P := Try.prog) 24 34 (.slice none 0 0) 24 Try.underlying24 infoS64 rfl .i64 .i64 n (by omega) (by omega)
  go_enter Try.func30, Try.ntmps30
  go_wp2
  clear hmk
  go_loopw [4] (fun i wr => ∃ k : Nat, k ≤ n ∧ i = .int .i64 k ∧ OwnM wr w.heap.size (.slice (some ⟨w.heap.size, 0, none⟩) n n) ((List.range n).map fun j => if j < k then R.getD j [] else []) ∧ Below w.heap.size w wr) (fun i _ => n - (intOf i).toNat)
  case atStart =>
    refine ⟨0, Nat.zero_le _, rfl, ?_, b_alloc _ _⟩
    refine (congrArg (OwnM _ _ _) ?_).mp (ownM_made w _ n (Nat.le_refl _) hm2)
    apply List.ext_getElem
    · simp
    · intro i h1 h2; simp
  case round =>
    obtain ⟨k, hk, rfl, hO, hb⟩ := hrel
    have HO := Lib.hid hO
    have HB := Lib.hid hb
    clear hO hb
    by_cases hlt : k < n
    · obtain ⟨b, off, ra, rc, L, l, rfl, hbl, hll, hc, hI⟩ := (HM.out.below HB.out).at k hlt
      have HI := Lib.hid hI
      have HLL := Lib.hid hll
      have hLs : L ≤ 1048576 := by
        have e1 := M.len_le_pre R k (by have := HL.out; omega)
        have e2 := HR.out
        have e3 := HI.out.1
        rw [HLL.out] at e3
        omega
      clear hI hll
      go_wp2_with fail
      refine (copyInts _ _ _ l _ HI.out hLs).mono ?_
      rintro e w1 ⟨rfl, ho1, hb1⟩
      have hg := HO.out.lt rfl
      have hst : ∃ v, w1.cell? ⟨w.heap.size, k, none⟩ = some v := by
        obtain ⟨v, hv⟩ := HO.out.outer k hlt
        exact ⟨v, by rw [hb1.cell (p := ⟨w.heap.size, k, none⟩) hg]; exact hv⟩
      obtain ⟨v, hst⟩ := hst
      have hfz : w1.frozen? ⟨w.heap.size, k, none⟩ = false := by rw [hb1.frozen (p := ⟨w.heap.size, k, none⟩) hg]; exact HO.out.outerFz k
      have HN := Lib.hid (HO.out.setRow hb1 HB.out.size ho1 k hlt)
      have HB1 := Lib.hid (bnext HB.out hb1)
      clear ho1 hb1 hg
      go_wp2
      go_roundw
      case rel =>
        refine ⟨k + 1, by omega, by go_num, ?_, HB1.out.setCell (Nat.le_refl _) _⟩
        refine (congrArg (OwnM _ _ _) ?_).mp HN.out
        apply List.ext_getElem
        · simp
        · intro j h1 h2
          simp only [List.length_map, List.length_range] at h2
          rw [List.getElem_set]
          simp only [List.getElem_map, List.getElem_range]
          by_cases e : k = j
          · subst e; rw [if_pos rfl, if_pos (by omega), HLL.out]
          · rw [if_neg e]
            by_cases e2 : j < k
            · rw [if_pos e2, if_pos (by omega)]
            · rw [if_neg e2, if_neg (by omega)]
      case measure => simp [intOf]; omega
    · have hkn : k = n := by omega
      subst hkn
      go_wp2
      go_ret
      refine ⟨rfl, ?_, HB.out⟩
      refine (congrArg (OwnM _ _ _) ?_).mp HO.out
      have hl := HL.out
      apply List.ext_getElem
      · simp [hl]
      · intro i h1 h2
        simp [show i < k by omega, h2]

/-- The same, said for the exact laws. -/
theorem eqM (a : Option Addr) (n cap : Nat) (R : List (List Int)) (a' : Option Addr) (n' cap' : Nat) (w : World) (h : Mat w a n R) (h' : Mat w a' n' R) :
    Calls Try.prog 31 #[.slice a n cap, .slice a' n' cap'] w fun e w' => e = .returned (.bool true) ∧ Below w.heap.size w w' := by
  refine (eqIntss _ _ _ _ _ _ _ _ _ h h' rfl).mono ?_
  rintro e w' ⟨rfl, q, rfl⟩
  exact ⟨rfl, b_draws _ _⟩
theorem eqV (a : Option Addr) (n cap : Nat) (l : List Int) (a' : Option Addr) (n' cap' : Nat) (w : World) (h : Ints .i64 w a n l) (h' : Ints .i64 w a' n' l) :
    Calls Try.prog 40 #[.slice a n cap, .slice a' n' cap'] w fun e w' => e = .returned (.bool true) ∧ Below w.heap.size w w' := by
  refine (eqInts _ _ _ _ _ _ _ _ _ h h' rfl).mono ?_
  rintro e w' ⟨rfl, q, rfl⟩
  exact ⟨rfl, b_draws _ _⟩
end Go.Proofs.Ytcofjjipjcekjaa.V

namespace Go.Proofs.Ytcofjjipjcekjaa.V
set_option maxRecDepth 100000
open Go.RowKit Go.Maps
set_option maxRecDepth 100000 in
set_option maxHeartbeats 2000000 in
theorem componentOf (a : Option Addr) (n cap : Nat) (R : List (List Int)) (v : Nat) (w : World) (h : Sq w a n R) (hv : v < n) :
    Calls Try.prog 63 #[.slice a n cap, .int .i64 v] w fun e w' => ∃ b c, e = .returned (.slice b (M.compL (M.ent R) n v).length c) ∧ Own w' w.heap.size (.slice b (M.compL (M.ent R) n v).length c) (M.compL (M.ent R) n v) ∧ Below w.heap.size w w' := by
  have HSq := Lib.hid h
  obtain ⟨n1, n2⟩ := h.2.2.2
  clear h
  go_enter Try.func63, Try.ntmps63
  go_wp2_with fail
  refine (reachedFrom _ _ _ R v _ HSq.out hv).mono ?_
  rintro e w1 ⟨b1, rfl, hlo, hs, hb⟩
  have HS1 := Lib.hid hs
  have HB1 := Lib.hid hb
  clear hs hb
  go_wp2_with fail
  refine (reaching _ _ _ R v _ (HSq.out.below HB1.out) hv).mono ?_
  rintro e w2 ⟨b2, rfl, hlo2, hs, hb⟩
  have HS2 := Lib.hid hs
  have HS12 := Lib.hid (HS1.out.below hb HS1.out.lt)
  have HB2 := Lib.hid (HB1.out.trans (hb.mono HB1.out.size))
  clear hs hb HS1 HB1
  go_wp2
  go_loopw [7, 8, 17] (fun o _ i wr => ∃ (k : Nat) (b : Option Addr) (c : Nat), k ≤ n ∧ i = .int .i64 k ∧ o = .slice b (M.compP (M.ent R) n v k).length c ∧ Hid (Own wr w2.heap.size (.slice b (M.compP (M.ent R) n v k).length c) (M.compP (M.ent R) n v k)) ∧ Hid (Below w2.heap.size w2 wr)) (fun _ _ i _ => n - (intOf i).toNat)
  case atStart => exact ⟨0, none, 0, Nat.zero_le _, rfl, rfl, own_nil _ _, Below.refl _ _⟩
  case round =>
    obtain ⟨k, b, c, hk, rfl, rfl, HO, HB⟩ := hrel
    by_cases hlt : k < n
    · have hki : (k : Int) < (n : Int) := by omega
      have HL1 := (HS12.out.below HB.out HS12.out.lt).look n2 k hlt
      have HL2 : (Instr.lookup 68 (.map (some b2)) (.int .i64 (k : Int)) false).run Try.prog wr = .ok (.bool (M.rchB (M.ent R) n k v)) wr := (HS2.out.below HB.out HS2.out.lt).look n2 k hlt
      have hnx := M.compP_next (M.ent R) n v k
      have hrel : M.relB (M.ent R) n v k = (M.rchB (M.ent R) n v k && M.rchB (M.ent R) n k v) := rfl
      have hlen := M.compP_len (M.ent R) n v k
      obtain ⟨x, hx⟩ : ∃ x, x = M.rchB (M.ent R) n v k := ⟨_, rfl⟩
      obtain ⟨y, hy⟩ : ∃ y, y = M.rchB (M.ent R) n k v := ⟨_, rfl⟩
      rw [← hy] at HL2
      rw [← hx] at HL1 hrel
      rw [← hy] at hrel
      rw [hrel] at hnx
      clear hx hy hrel
      cases x with
      | false =>
        have HN : Hid (M.compP (M.ent R) n v (k + 1) = M.compP (M.ent R) n v k) := by show _ = _; rw [hnx]; simp
        clear hnx
        go_wp2
        go_roundw
        case rel => exact ⟨k + 1, b, c, by omega, by go_num, by rw [HN.out], by show Own _ _ _ _; rw [HN.out]; exact HO.out, HB⟩
        case measure => simp [intOf]; omega
      | true =>
        cases y with
        | false =>
          have HN : Hid (M.compP (M.ent R) n v (k + 1) = M.compP (M.ent R) n v k) := by show _ = _; rw [hnx]; simp
          clear hnx
          go_wp2
          go_roundw
          case rel => exact ⟨k + 1, b, c, by omega, by go_num, by rw [HN.out], by show Own _ _ _ _; rw [HN.out]; exact HO.out, HB⟩
          case measure => simp [intOf]; omega
        | true =>
          have HN : Hid (M.compP (M.ent R) n v (k + 1) = M.compP (M.ent R) n v k ++ [(k : Int)]) := by show _ = _; rw [hnx]; simp
          clear hnx
          generalize M.compP (M.ent R) n v k = l at *
          go_wp2_with (at_builtin; refine append1 _ rfl (.tmp 28) (.tmp 30) rfl w2.heap.size _ l (k : Int) _ rfl rfl HO.out rfl (by omega) HB.out.size ?_)
          intro b4 c4 w4 hO4 hb4 _
          have HO4 := Lib.hid hO4
          have HB4 := Lib.hid (HB.out.trans hb4)
          rw [← HN.out] at HO4
          clear hO4 hb4
          go_wp2
          go_roundw
          case rel => exact ⟨k + 1, b4, c4, by omega, by go_num, by rw [HN.out, List.length_append]; rfl, by show Own _ _ _ _; rw [HN.out, List.length_append]; rw [HN.out] at HO4; exact HO4.out, HB4⟩
          case measure => simp [intOf]; omega
    · obtain rfl : k = n := by omega
      go_wp2
      go_ret
      exact ⟨b, c, rfl, HO.out.mono HB2.out.size, HB2.out.trans (HB.out.mono HB2.out.size)⟩
end Go.Proofs.Ytcofjjipjcekjaa.V

namespace Go.Proofs.Ytcofjjipjcekjaa
namespace M
def canRes (R : List (List Int)) (x y : Int) : Bool × Int := if sqB R then (if inN R.length x && inN R.length y then (rchB (ent R) R.length x.toNat y.toNat, 0) else (false, 2)) else (false, 1)
def cmpsRes (R : List (List Int)) : List (List Int) × Int := if sqB R then (compsL (ent R) R.length, 0) else ([], 1)
def irrRes (R : List (List Int)) : Bool × Int := if sqB R then (decide ((compL (ent R) R.length 0).length = R.length), 0) else (false, 1)
theorem nodes2 (n : Nat) (x y : Int) : nodesB n [x, y] = (inN n x && inN n y) := by unfold nodesB; simp
theorem inN_k {n : Nat} {x : Int} (h : inN n x = true) : ∃ k : Nat, k < n ∧ x = k := by
  unfold inN at h
  rw [Bool.and_eq_true, decide_eq_true_eq, decide_eq_true_eq] at h
  exact ⟨x.toNat, by omega, by omega⟩
end M
namespace V
open Go.RowKit Go.Maps
def BPostC (r : Bool × Int) (w : World) (e : Ending) (w' : World) : Prop := e = .returned (.tuple #[.bool r.1, .int .i64 r.2]) ∧ Below w.heap.size w w'
theorem BPostC.mk' {r : Bool × Int} {b : Bool} {c : Int} {w w' : World} (hr : r = (b, c)) (hb : Below w.heap.size w w') : BPostC r w (.returned (.tuple #[.bool b, .int .i64 c])) w' := by subst hr; exact ⟨rfl, hb⟩
set_option maxRecDepth 100000 in
set_option maxHeartbeats 2000000 in
theorem componentsOf (a : Option Addr) (n cap : Nat) (R : List (List Int)) (w : World) (h : Sq w a n R) :
    Calls Try.prog 54 #[.slice a n cap] w fun e w' => ∃ b m c, e = .returned (.slice b m c) ∧ OwnM w' w.heap.size (.slice b m c) (M.compsL (M.ent R) n) ∧ Below w.heap.size w w' := by
  have HSq := Lib.hid h
  obtain ⟨n1, n2⟩ := h.2.2.2
  clear h
  go_enter Try.func54, Try.ntmps54
  go_wp2
  go_loopw [3, 4, 5, 8] (fun o _ _ i wr => ∃ (k : Nat) (b : Option Addr) (c : Nat), k ≤ n ∧ i = .int .i64 k ∧ o = .slice b (M.compsP (M.ent R) n k).length c ∧ Hid (OwnM wr w.heap.size (.slice b (M.compsP (M.ent R) n k).length c) (M.compsP (M.ent R) n k)) ∧ Hid (Below w.heap.size w wr)) (fun _ _ _ i _ => n - (intOf i).toNat)
  case atStart => exact ⟨0, none, 0, Nat.zero_le _, rfl, rfl, ownM_nil _ _, Below.refl _ _⟩
  case round =>
    obtain ⟨k, b, c, hk, rfl, rfl, HO, HB⟩ := hrel
    obtain ⟨wo, rfl⟩ : ∃ x, x = wr := ⟨_, rfl⟩
    by_cases hlt : k < n
    · have hki : (k : Int) < (n : Int) := by omega
      have HNx := Lib.hid (M.compsP_next (M.ent R) n k)
      have HLn := Lib.hid (M.compsP_len (M.ent R) n k)
      go_wp2_with fail
      refine (componentOf _ _ _ R k _ (HSq.out.below HB.out) hlt).mono ?_
      rintro e w1 ⟨b1, c1, rfl, ho, hb⟩
      have HO1 := Lib.hid ho
      have HB1 := Lib.hid hb
      obtain ⟨d, od, x, rfl, -, hx, cx⟩ := ho.ints'.at 0 (M.compL_pos hlt)
      rw [Nat.add_zero] at cx
      have hrep := (M.rep_t (A := M.ent R) hlt).2.2
      rw [← hx] at hrep
      have HRp := Lib.hid hrep
      have hlen1 : (M.compL (M.ent R) n k).length ≤ 10 := by have := M.compP_len (M.ent R) n k n; unfold M.compL; omega
      have hlen0 := M.compL_pos (A := M.ent R) hlt
      clear ho hb hx hrep
      generalize M.compL (M.ent R) n k = l at *
      by_cases hr : x = (k : Int)
      · have HN : Hid (M.compsP (M.ent R) n (k + 1) = M.compsP (M.ent R) n k ++ [l]) := by show _ = _; rw [HNx.out, if_pos (by have := HRp.out; omega)]
        have hr2 : (x == (k : Int)) = true := by simp [hr]
        clear hr
        generalize M.compsP (M.ent R) n k = L at *
        go_wp2_with (at_builtin; refine appendRow wo _ rfl (.tmp 19) (.tmp 21) rfl w.heap.size _ _ L l _ rfl rfl HO.out HB1.out HO1.out rfl (by have := HLn.out; omega) HB.out.size ?_)
        intro b4 c4 w4 hO4 hb4 _
        have HO4 := Lib.hid hO4
        have HB4 := Lib.hid ((HB.out.trans (HB1.out.mono HB.out.size)).trans hb4)
        clear hO4 hb4
        go_wp2
        go_roundw
        case rel => exact ⟨k + 1, b4, c4, by omega, by go_num, by rw [HN.out, List.length_append]; rfl, by show OwnM _ _ _ _; rw [HN.out, List.length_append]; exact HO4.out, HB4⟩
        case measure => simp [intOf]; omega
      · have HN : Hid (M.compsP (M.ent R) n (k + 1) = M.compsP (M.ent R) n k) := by show _ = _; rw [HNx.out, if_neg (by have := HRp.out; omega), List.append_nil]
        have hr2 : (x == (k : Int)) = false := by simpa using hr
        go_wp2
        go_roundw
        case rel => exact ⟨k + 1, b, c, by omega, by go_num, by rw [HN.out], by show OwnM _ _ _ _; rw [HN.out]; exact HO.out.below HB1.out, HB.out.trans (HB1.out.mono HB.out.size)⟩
        case measure => simp [intOf]; omega
    · obtain rfl : k = n := by omega
      go_wp2
      go_ret
      exact ⟨b, _, c, rfl, HO.out, HB.out⟩
set_option maxRecDepth 100000 in
set_option maxHeartbeats 400000 in
theorem componentsOfX (a : Option Addr) (n cap : Nat) (R : List (List Int)) (w : World) (h : Mat w a n R) :
    Calls Try.prog 16 #[.slice a n cap] w (MRes (M.cmpsRes R) w) := by
  have HA := Lib.hid h
  by_cases hs : M.sqB R = true
  · have HS := Lib.hid hs
    have HQ := Lib.hid (sq_of h hs)
    have HE : Hid (M.cmpsRes R = (M.compsL (M.ent R) n, 0)) := by show _ = _; unfold M.cmpsRes; rw [if_pos hs, h.1]
    clear h hs
    go_enter Try.func16, Try.ntmps16
    go_wp2_with fail
    refine (isSquare_b _ _ _ R _ true HS.out HA.out).mono ?_
    rintro e w' ⟨rfl, rfl⟩
    go_wp2_with fail
    refine (componentsOf _ _ _ R _ HQ.out).mono ?_
    rintro e w1 ⟨b1, m1, c1, rfl, ho, hb⟩
    have HO := Lib.hid ho
    have HB := Lib.hid hb
    clear ho hb
    go_wp2
    go_ret2
    rw [HE.out]
    exact ⟨_, _, _, rfl, HO.out, HB.out⟩
  · simp only [Bool.not_eq_true] at hs
    have HS := Lib.hid hs
    have HE : Hid (M.cmpsRes R = ([], 1)) := by show _ = _; unfold M.cmpsRes; rw [hs]; rfl
    clear h hs
    go_enter Try.func16, Try.ntmps16
    go_wp2_with fail
    refine (isSquare_b _ _ _ R _ false HS.out HA.out).mono ?_
    rintro e w' ⟨rfl, rfl⟩
    go_wp2
    go_ret2
    exact MRes.nil HE.out (Below.refl _ _)
set_option maxRecDepth 100000 in
set_option maxHeartbeats 400000 in
theorem isIrreducible (a : Option Addr) (n cap : Nat) (R : List (List Int)) (w : World) (h : Mat w a n R) :
    Calls Try.prog 21 #[.slice a n cap] w (BPostC (M.irrRes R) w) := by
  have HA := Lib.hid h
  by_cases hs : M.sqB R = true
  · have HS := Lib.hid hs
    have HQ := Lib.hid (sq_of h hs)
    obtain ⟨n1, n2⟩ := (sq_of h hs).2.2.2
    obtain ⟨m, hm⟩ : ∃ m, m = (M.compL (M.ent R) n 0).length := ⟨_, rfl⟩
    have HE : Hid (M.irrRes R = (((m : Int) == (n : Int)), 0)) := by
      show _ = _
      unfold M.irrRes
      rw [if_pos hs, h.1, ← hm]
      congr 1
      by_cases e : m = n
      · subst e; simp
      · rw [decide_eq_false e]; symm; simp; omega
    have HM := Lib.hid hm.symm
    clear h hs hm
    go_enter Try.func21, Try.ntmps21
    go_wp2_with fail
    refine (isSquare_b _ _ _ R _ true HS.out HA.out).mono ?_
    rintro e w' ⟨rfl, rfl⟩
    go_wp2_with fail
    refine (componentOf _ _ _ R 0 _ HQ.out (by omega)).mono ?_
    rintro e w1 ⟨b1, c1, rfl, ho, hb⟩
    rw [HM.out]
    have HB := Lib.hid hb
    clear ho hb
    go_wp2
    go_ret2
    exact BPostC.mk' HE.out HB.out
  · simp only [Bool.not_eq_true] at hs
    have HS := Lib.hid hs
    have HE : Hid (M.irrRes R = (false, 1)) := by show _ = _; unfold M.irrRes; rw [hs]; rfl
    clear h hs
    go_enter Try.func21, Try.ntmps21
    go_wp2_with fail
    refine (isSquare_b _ _ _ R _ false HS.out HA.out).mono ?_
    rintro e w' ⟨rfl, rfl⟩
    go_wp2
    go_ret2
    exact BPostC.mk' HE.out (Below.refl _ _)
set_option maxRecDepth 100000 in
set_option maxHeartbeats 400000 in
theorem canReach (a : Option Addr) (n cap : Nat) (R : List (List Int)) (x y : Int) (w : World) (h : Mat w a n R) :
    Calls Try.prog 19 #[.slice a n cap, .int .i64 x, .int .i64 y] w (BPostC (M.canRes R x y) w) := by
  have HA := Lib.hid h
  by_cases hs : M.sqB R = true
  · have HS := Lib.hid hs
    have HQ := Lib.hid (sq_of h hs)
    obtain ⟨n1, n2⟩ := (sq_of h hs).2.2.2
    have HLit : Hid (Ints .i64 (w.alloc (.cells #[.int .i64 x, .int .i64 y] 2)) (some ⟨w.heap.size, 0, none⟩) 2 [x, y]) :=
      (show Own (w.alloc (.cells #[.int .i64 x, .int .i64 y] 2)) w.heap.size (.slice (some ⟨w.heap.size, 0, none⟩) 2 2) [x, y] from World.ownsRow_lit w #[.int .i64 x, .int .i64 y] 2 (Nat.le_refl _) (by decide) rfl).ints'
    obtain ⟨c, hc⟩ : ∃ c, c = M.nodesB n [x, y] := ⟨_, rfl⟩
    have HC := Lib.hid hc.symm
    cases c with
    | true =>
      rw [M.nodes2, eq_comm, Bool.and_eq_true] at hc
      obtain ⟨k, hk, rfl⟩ := M.inN_k hc.1
      obtain ⟨t, ht, rfl⟩ := M.inN_k hc.2
      obtain ⟨r, hr⟩ : ∃ r, r = M.rchB (M.ent R) n k t := ⟨_, rfl⟩
      have HR := Lib.hid hr.symm
      have HE : Hid (M.canRes R k t = (r, 0)) := by
        show _ = _
        unfold M.canRes
        rw [if_pos hs, h.1, hc.1, hc.2, hr]; rfl
      clear h hs hc hr
      go_enter Try.func19, Try.ntmps19
      go_wp2_with fail
      refine (isSquare_b _ _ _ R _ true HS.out HA.out).mono ?_
      rintro e w' ⟨rfl, rfl⟩
      go_wp2_with fail
      refine (areNodes_b _ _ _ _ _ _ [(k : Int), (t : Int)] _ true HC.out (by omega) HLit.out).mono ?_
      rintro e w' ⟨rfl, rfl⟩
      go_wp2_with fail
      refine (reachedFrom _ _ _ R k _ (HQ.out.below (b_alloc _ _)) hk).mono ?_
      rintro e w1 ⟨b1, rfl, hlo, hst, hb⟩
      have hlk := hst.look n2 t ht
      rw [HR.out] at hlk
      have HB := Lib.hid ((b_alloc w (.cells #[.int .i64 (k : Int), .int .i64 (t : Int)] 2)).trans (hb.mono (by simp)))
      clear hst hb
      go_wp2
      go_ret2
      exact BPostC.mk' HE.out HB.out
    | false =>
      have HE : Hid (M.canRes R x y = (false, 2)) := by
        show _ = _
        unfold M.canRes
        rw [if_pos hs, h.1, ← M.nodes2, ← hc]; rfl
      clear h hs hc
      go_enter Try.func19, Try.ntmps19
      go_wp2_with fail
      refine (isSquare_b _ _ _ R _ true HS.out HA.out).mono ?_
      rintro e w' ⟨rfl, rfl⟩
      go_wp2_with fail
      refine (areNodes_b _ _ _ _ _ _ [x, y] _ false HC.out (by omega) HLit.out).mono ?_
      rintro e w' ⟨rfl, rfl⟩
      go_wp2
      go_ret2
      exact BPostC.mk' HE.out (b_alloc _ _)
  · simp only [Bool.not_eq_true] at hs
    have HS := Lib.hid hs
    have HE : Hid (M.canRes R x y = (false, 1)) := by show _ = _; unfold M.canRes; rw [hs]; rfl
    clear h hs
    go_enter Try.func19, Try.ntmps19
    go_wp2_with fail
    refine (isSquare_b _ _ _ R _ false HS.out HA.out).mono ?_
    rintro e w' ⟨rfl, rfl⟩
    go_wp2
    go_ret2
    exact BPostC.mk' HE.out (Below.refl _ _)
end V
end Go.Proofs.Ytcofjjipjcekjaa

namespace Go.Proofs.Ytcofjjipjcekjaa
namespace M
theorem pre_sum (L : List (List Int)) : pre L L.length = sumLen L := by
  unfold pre
  rw [List.take_length]
  induction L with
  | nil => rfl
  | cons l L ih => rw [List.map_cons, List.sum_cons, ih]; rfl
theorem cmps_ok (R : List (List Int)) : pre (cmpsRes R).1 (cmpsRes R).1.length ≤ 100 ∧ (cmpsRes R).1.length ≤ 10 := by
  unfold cmpsRes
  by_cases h : sqB R = true
  · rw [if_pos h]
    obtain ⟨n1, n2, -⟩ := sq_sm h
    refine ⟨?_, ?_⟩
    · show pre (compsL _ _) (compsL _ _).length ≤ 100
      rw [pre_sum, sum_compsL]; omega
    · have := compsP_len (ent R) R.length R.length
      show (compsL _ _).length ≤ 10
      unfold compsL; omega
  · rw [if_neg h]; exact ⟨by unfold pre; simp, by simp⟩
end M
end Go.Proofs.Ytcofjjipjcekjaa

namespace Go.Proofs.Ytcofjjipjcekjaa.V
open Go.RowKit

/-- The three cells of a source: the code, the place, the seed. -/
def srcF (a : Option Addr) (n cap t : Nat) (s : Int) : Nat → Value
  | 0 => .slice a n cap
  | 1 => .int .i64 t
  | _ => .int .i64 s

/-- The code of a source: bytes that lie below block g. -/
def CodeAt (w : World) (g : Nat) (a : Option Addr) (n : Nat) : Prop :=
  n ≤ maxLen ∧ (n = 0 ∨ ∃ b off, a = some ⟨b, off, none⟩ ∧ b < g ∧ ∀ i, i < n → ∃ x : Int, 0 ≤ x ∧ x ≤ 255 ∧ w.cell? ⟨b, off + i, none⟩ = some (.int .u8 x))

/-- Block g is a source. -/
def Src (w : World) (g : Nat) : Prop := ∃ (a : Option Addr) (n cap t : Nat) (s : Int),
  w.rowIs g 94 3 (srcF a n cap t s) ∧ CodeAt w g a n ∧ t ≤ n ∧ 0 ≤ s ∧ s < 2147483647

/-- Only block g may have changed; blocks may have been added. -/
structure Thr (g : Nat) (w w' : World) : Prop where
  below : Below g w w'
  other : ∀ k, g < k → k < w.heap.size → w'.heap[k]? = w.heap[k]?

theorem Thr.refl (g : Nat) (w : World) : Thr g w w := ⟨Below.refl _ _, fun _ _ _ => rfl⟩
theorem Thr.trans {g : Nat} {a b c : World} (h : Thr g a b) (k : Thr g b c) : Thr g a c :=
  ⟨h.below.trans k.below, fun i h1 h2 => (k.other i h1 (Nat.lt_of_lt_of_le h2 h.below.size)).trans (h.other i h1 h2)⟩
theorem Thr.drew {g : Nat} {a b : World} (h : Thr g a b) : Thr g a b.drew := ⟨h.below.drew, h.other⟩
theorem Thr.drewN {g : Nat} {a b : World} (h : Thr g a b) (n : Nat) : Thr g a (b.drewN n) := ⟨below_drewN h.below n, h.other⟩
theorem Thr.setCell {g : Nat} {a b : World} (h : Thr g a b) {i : Nat} (v : Value) : Thr g a (b.setCell ⟨g, i, none⟩ v) :=
  ⟨h.below.setCell (Nat.le_refl _) v, fun k h1 h2 => (Below.heap_setCell _ _ _ _ (by show k ≠ g; omega)).trans (h.other k h1 h2)⟩
theorem Thr.cell {g : Nat} {w w' : World} (h : Thr g w w') {p : Addr} (hp : p.block < w.heap.size) (hne : p.block ≠ g) : w'.cell? p = w.cell? p := by
  by_cases hlt : p.block < g
  · exact h.below.cell hlt
  · exact World.cell?_of_block (w := w) (h.other _ (by omega) hp)

theorem CodeAt.below {w w' : World} {g : Nat} {a : Option Addr} {n : Nat} (h : CodeAt w g a n) (hb : Below g w w') : CodeAt w' g a n := by
  obtain ⟨h1, h2⟩ := h
  refine ⟨h1, ?_⟩
  rcases h2 with h2 | ⟨b, off, rfl, hlt, hc⟩
  · exact .inl h2
  · refine .inr ⟨b, off, rfl, hlt, fun i hi => ?_⟩
    obtain ⟨x, x1, x2, hx⟩ := hc i hi
    exact ⟨x, x1, x2, by rw [hb.cell (p := ⟨b, off + i, none⟩) hlt]; exact hx⟩

theorem Src.below {w w' : World} {g : Nat} (h : Src w g) (hb : Below (g + 1) w w') : Src w' g := by
  obtain ⟨a, n, cap, t, s, h1, h2, h3⟩ := h
  exact ⟨a, n, cap, t, s, h1.of_block (hb.block g (by omega)), h2.below (hb.mono (by omega)), h3⟩
theorem Src.lt {w : World} {g : Nat} (h : Src w g) : g < w.heap.size := by
  obtain ⟨a, n, cap, t, s, h1, h2, h3⟩ := h
  exact h1.lt
theorem Src.drew {w : World} {g : Nat} (h : Src w g) : Src w.drew g := h

/-- What a drawn number is. -/
def NextPost (g : Nat) (n : Int) (w : World) (e : Ending) (w' : World) : Prop :=
  ∃ x : Int, e = .returned (.int .i64 x) ∧ 0 ≤ x ∧ (x < n ∨ x = 0) ∧ Src w' g ∧ Thr g w w'

theorem mod_lt (x n : Int) (hx : 0 ≤ x) (hn : 1 < n) : 0 ≤ x % n ∧ (x % n < n ∨ x % n = 0) :=
  ⟨Int.emod_nonneg _ (by omega), .inl (Int.emod_lt_of_pos _ (by omega))⟩

theorem rowIs_seed {w : World} {g T : Nat} {a : Option Addr} {n cap t : Nat} {s : Int} (h : w.rowIs g T 3 (srcF a n cap t s)) (s' : Int) : (w.setCell ⟨g, 2, none⟩ (.int .i64 s')).rowIs g T 3 (srcF a n cap t s') :=
  (h.set 2 _).congr (fun i hi => by
    match i, hi with
    | 0, _ => rfl
    | 1, _ => rfl
    | 2, _ => rfl)
theorem rowIs_at {w : World} {g T : Nat} {a : Option Addr} {n cap t : Nat} {s : Int} (h : w.rowIs g T 3 (srcF a n cap t s)) (t' : Nat) (v : Int) (hv : v = (t' : Int)) : (w.setCell ⟨g, 1, none⟩ (.int .i64 v)).rowIs g T 3 (srcF a n cap t' s) :=
  (h.set 1 _).congr (fun i hi => by
    subst hv
    match i, hi with
    | 0, _ => rfl
    | 1, _ => rfl
    | 2, _ => rfl)

theorem next_fin {g : Nat} {n : Int} {w w2 : World} {a : Option Addr} {m cap t : Nat} {s x : Int} (hn : 1 < n) (hx : 0 ≤ x) (hrow : w2.rowIs g 94 3 (srcF a m cap t s)) (hc : CodeAt w g a m) (ht : t ≤ m) (s1 : 0 ≤ s) (s2 : s < 2147483647)
    (hthr : Thr g w w2) : NextPost g n w (.returned (.int .i64 (x % n))) w2 :=
  ⟨_, rfl, (mod_lt x n hx hn).1, (mod_lt x n hx hn).2, ⟨a, m, cap, t, s, hrow, hc.below hthr.below, ht, s1, s2⟩, hthr⟩

set_option maxRecDepth 100000 in
set_option maxHeartbeats 1000000 in
theorem next (g : Nat) (n : Int) (w : World) (wn : (Lit.int .i64 n).wf = true) (h : Src w g) :
    Calls Try.prog 58 #[.pointer (some ⟨g, 0, none⟩), .int .i64 n] w (NextPost g n w) := by
  by_cases hn : n ≤ 1
  · go_enter Try.func58, Try.ntmps58
    go_wp2
    go_ret
    exact ⟨0, rfl, by omega, .inr rfl, h, Thr.refl _ _⟩
  · obtain ⟨a, m, cap, t, s, hrow, hcode, ht, s1, s2⟩ := h
    have c0 : w.cell? ⟨g, 0, none⟩ = some (.slice a m cap) := hrow.cell (i := 0) (by omega)
    have c1 : w.cell? ⟨g, 1, none⟩ = some (.int .i64 t) := hrow.cell (i := 1) (by omega)
    have c2 : w.cell? ⟨g, 2, none⟩ = some (.int .i64 s) := hrow.cell (i := 2) (by omega)
    have f0 := hrow.frozen 0
    have f1 := hrow.frozen 1
    have f2 := hrow.frozen 2
    have HCODE := Lib.hid hcode
    obtain ⟨hm, hcode⟩ := hcode
    unfold maxLen at hm
    have HR := Lib.hid hrow
    clear hrow
    have hn' : 1 < n := by omega
    have r1 : 0 ≤ (s * 48271 + 59) % 2147483647 := Int.emod_nonneg _ (by omega)
    have r2 : (s * 48271 + 59) % 2147483647 < 2147483647 := Int.emod_lt_of_pos _ (by omega)
    by_cases htm : t < m
    · rcases hcode with h0 | ⟨b, off, rfl, hbg, hc⟩
      · omega
      obtain ⟨x, x1, x2, hcx⟩ := hc t htm
      clear hc
      have hne : ¬ b = g := by omega
      have hti : (t : Int) < (m : Int) := by omega
      have ht0 : 0 ≤ (t : Int) + 1 := by omega
      have hq : 0 ≤ (s * 48271 + 59) % 2147483647 / 31 := Int.ediv_nonneg r1 (by omega)
      have HC : Hid (CodeAt w g (some ⟨b, off, none⟩) m) := HCODE
      clear HCODE
      by_cases h256 : n ≤ 256
      · by_cases hev : ((t : Int) + 1) % 2 = 0
        · have hev' : (((t : Int) + 1) % 2 == 0) = true := by simpa using hev
          clear hev
          go_enter Try.func58, Try.ntmps58
          go_wp2
          go_quiet (fail)
          go_wp2
          go_quiet (fail)
          go_wp2
          go_quiet (fail)
          go_wp2
          go_ret
          exact next_fin hn' x1 (rowIs_at (w := (w.setCell ⟨g, 2, none⟩ (.int .i64 ((s * 48271 + 59) % 2147483647))).drewN _) (rowIs_seed HR.out _) (t + 1) _ (by omega)) HC.out (by omega) r1 r2 (((((Thr.refl g w).setCell _).drewN _).setCell _).drewN _)
        · have hev' : (((t : Int) + 1) % 2 == 0) = false := by simpa using hev
          clear hev
          go_enter Try.func58, Try.ntmps58
          go_wp2
          go_quiet (fail)
          go_wp2
          go_quiet (fail)
          go_wp2
          go_ret
          exact next_fin hn' (by omega) (rowIs_at (w := (w.setCell ⟨g, 2, none⟩ (.int .i64 ((s * 48271 + 59) % 2147483647))).drewN _) (rowIs_seed HR.out _) (t + 1) _ (by omega)) HC.out (by omega) r1 r2 ((((Thr.refl g w).setCell _).drewN _).setCell _)
      · go_enter Try.func58, Try.ntmps58
        go_wp2
        go_quiet (fail)
        go_wp2
        go_quiet (fail)
        go_wp2
        go_ret
        exact next_fin hn' (by omega) (rowIs_at (w := (w.setCell ⟨g, 2, none⟩ (.int .i64 ((s * 48271 + 59) % 2147483647))).drewN _) (rowIs_seed HR.out _) (t + 1) _ (by omega)) HC.out (by omega) r1 r2 ((((Thr.refl g w).setCell _).drewN _).setCell _)
    · obtain rfl : t = m := by omega
      have hq : 0 ≤ (s * 48271 + 59) % 2147483647 / 31 := Int.ediv_nonneg r1 (by omega)
      have HC : Hid (CodeAt w g a t) := HCODE
      clear HCODE hcode
      go_enter Try.func58, Try.ntmps58
      go_wp2
      go_quiet (fail)
      go_wp2
      go_ret
      exact next_fin hn' (by omega) (rowIs_seed HR.out _) HC.out (by omega) r1 r2 (((Thr.refl g w).setCell _).drewN _)
end Go.Proofs.Ytcofjjipjcekjaa.V

namespace Go.Proofs.Ytcofjjipjcekjaa.V
open Go.RowKit

theorem wf_small (n : Int) (a : -1000000000000000000 ≤ n) (b : n ≤ 1000000000000000000) : (Lit.int .i64 n).wf = true := by
  show (decide (IntKind.i64.min ≤ n) && decide (n ≤ IntKind.i64.max)) = true
  rw [Bool.and_eq_true]
  constructor <;> apply decide_eq_true
  · show (-9223372036854775808 : Int) ≤ n
    omega
  · show n ≤ (9223372036854775807 : Int)
    omega

/-- A slice of bytes that came in. -/
def Bytes (w : World) (a : Option Addr) (n : Nat) : Prop := CodeAt w w.heap.size a n

theorem IsRow.bytes {w : World} {a : Option Addr} {len cap : Nat} {zs : List Int} (h : IsRow .u8 w a len cap zs) : Bytes w a len := by
  rcases h with ⟨rfl, rfl, rfl, rfl⟩ | ⟨x, rfl, hl, hm, hz, hcell, hwf⟩
  · exact ⟨Nat.zero_le _, .inl rfl⟩
  · refine ⟨by omega, ?_⟩
    by_cases h0 : len = 0
    · exact .inl h0
    · obtain ⟨b, off, rfl, hc⟩ := ints_at hcell (by omega)
      refine .inr ⟨b, off, rfl, cell_lt (hc 0 (by omega)), fun i hi => ?_⟩
      have hx : zs.getD i 0 ∈ zs := by
        rw [List.getD_eq_getElem?_getD, List.getElem?_eq_getElem (by omega)]
        simp
      have := bounds_u8 (hwf _ hx)
      exact ⟨_, this.1, this.2, hc i (by omega)⟩

theorem Bytes.below {w w' : World} {a : Option Addr} {n : Nat} (h : Bytes w a n) (hb : Below w.heap.size w w') : Bytes w' a n := by
  have h2 := CodeAt.below h hb
  obtain ⟨h1, h3⟩ := h2
  refine ⟨h1, ?_⟩
  rcases h3 with h3 | ⟨b, off, rfl, hlt, hc⟩
  · exact .inl h3
  · exact .inr ⟨b, off, rfl, by have := hb.size; omega, hc⟩

set_option maxRecDepth 100000 in
set_option maxHeartbeats 1000000 in
theorem from_ (a : Option Addr) (n cap : Nat) (w : World) (h : Bytes w a n) :
    Calls Try.prog 52 #[.slice a n cap] w fun e w' => e = .returned (.pointer (some ⟨w.heap.size, 0, none⟩)) ∧ Src w' w.heap.size ∧ Below w.heap.size w w' := by
  have HB := Lib.hid h
  obtain ⟨hm, hcode⟩ := h
  unfold maxLen at hm
  go_enter Try.func52, Try.ntmps52
  go_wp2
  have hst : (w.alloc (.cells #[.slice a n cap, .int .i64 0, .int .i64 61403] 94)).rowIs w.heap.size 94 3 (srcF a n cap 0 61403) :=
    World.rowIs_alloc w _ _ _ (fun i hi => by
      match i, hi with
      | 0, _ => rfl
      | 1, _ => rfl
      | 2, _ => rfl)
  have HST := Lib.hid hst
  clear hst
  go_loopw [4] (fun i wr => ∃ k : Nat, ∃ s : Int, k ≤ n ∧ i = .int .i64 k ∧ 0 ≤ s ∧ s < 2147483647 ∧ wr.rowIs w.heap.size 94 3 (srcF a n cap 0 s) ∧ Below w.heap.size w wr) (fun i _ => n - (intOf i).toNat)
  case atStart => exact ⟨0, 61403, Nat.zero_le _, rfl, by omega, by omega, HST.out, b_alloc _ _⟩
  case round =>
    obtain ⟨k, s, hk, rfl, s1, s2, hrow, hb⟩ := hrel
    clear HST
    by_cases hlt : k < n ∧ k < 64
    · obtain ⟨hlt, h64⟩ := hlt
      rcases hcode with h0 | ⟨b, off, rfl, hbl, hc⟩
      · omega
      obtain ⟨x, x1, x2, hx⟩ := hc k hlt
      have hx' : wr.cell? ⟨b, off + k, none⟩ = some (.int .u8 x) := by rw [hb.cell (p := ⟨b, off + k, none⟩) hbl]; exact hx
      have c2 : wr.cell? ⟨w.heap.size, 2, none⟩ = some (.int .i64 s) := hrow.cell (i := 2) (by omega)
      have f2 := hrow.frozen 2
      have HR := Lib.hid hrow
      have HBW := Lib.hid hb
      clear hc hx hrow hb
      have r1 : 0 ≤ (s * 67 + x) % 2147483647 := Int.emod_nonneg _ (by omega)
      have r2 : (s * 67 + x) % 2147483647 < 2147483647 := Int.emod_lt_of_pos _ (by omega)
      have hki : (k : Int) < (n : Int) := by omega
      have hkj : (k : Int) < 64 := by omega
      go_wp2
      go_region
      go_wp2
      go_roundw
      case rel => exact ⟨k + 1, (s * 67 + x) % 2147483647, by omega, by go_num, r1, r2, rowIs_seed HR.out _, (HBW.out.setCell (Nat.le_refl _) _).drew⟩
      case measure => simp [intOf]; omega
    · have HR := Lib.hid hrow
      have HBW := Lib.hid hb
      clear hrow hb hcode
      by_cases hlt2 : k < n
      · have h64 : ¬ ((k : Int) < 64) := by omega
        have h64' : decide ((k : Int) < 64) = false := by simpa using h64
        clear hlt h64
        go_wp2
        go_ret
        exact ⟨rfl, ⟨a, n, cap, 0, s, HR.out, (CodeAt.below HB.out HBW.out), Nat.zero_le _, s1, s2⟩, HBW.out⟩
      · have hkn : k = n := by omega
        subst hkn
        clear hlt hlt2
        go_wp2
        go_ret
        exact ⟨rfl, ⟨a, k, cap, 0, s, HR.out, (CodeAt.below HB.out HBW.out), Nat.zero_le _, s1, s2⟩, HBW.out⟩

/-- What a picked number is: one of the list. -/
def PickPost (g : Nat) (w : World) (e : Ending) (w' : World) : Prop :=
  ∃ x : Int, e = .returned (.int .i64 x) ∧ (Lit.int .i64 x).wf = true ∧ Src w' g ∧ Thr g w w'

set_option maxRecDepth 100000 in
set_option maxHeartbeats 1000000 in
theorem pick (g b off n cap : Nat) (w : World) (h : Src w g) (hn : 0 < n) (hm : n ≤ 100) (hbg : g < b) (hc : ∀ i, i < n → ∃ x : Int, (Lit.int .i64 x).wf = true ∧ w.cell? ⟨b, off + i, none⟩ = some (.int .i64 x)) :
    Calls Try.prog 96 #[.pointer (some ⟨g, 0, none⟩), .slice (some ⟨b, off, none⟩) n cap] w (PickPost g w) := by
  have hbl : b < w.heap.size := by obtain ⟨x, _, hx⟩ := hc 0 hn; exact cell_lt hx
  have hwf : (Lit.int .i64 (n : Int)).wf = true := wf_small _ (by omega) (by omega)
  go_enter Try.func96, Try.ntmps96
  go_wp2_with fail
  refine (next _ _ _ hwf h).mono ?_
  rintro e w1 ⟨x, rfl, hx1, hx2, hs, ht⟩
  obtain ⟨k, rfl⟩ := Int.eq_ofNat_of_zero_le hx1
  have hk : k < n := by omega
  obtain ⟨y, hy, hcy⟩ := hc k hk
  have hcy' : w1.cell? ⟨b, off + k, none⟩ = some (.int .i64 y) := by rw [ht.cell (p := ⟨b, off + k, none⟩) hbl (by show b ≠ g; omega)]; exact hcy
  have hki : (k : Int) < (n : Int) := by omega
  have HT := Lib.hid ht
  have HS := Lib.hid hs
  clear hc hcy ht hs hx2
  go_wp2
  go_ret
  exact ⟨y, rfl, hy, HS.out, HT.out⟩

theorem litCells (w : World) (l : List Int) (vs : Array Value) (T : Nat) (hv : vs = (l.map (Value.int .i64)).toArray) (hw : l.all (fun x => (Lit.int .i64 x).wf) = true) :
    ∀ i, i < l.length → ∃ x : Int, (Lit.int .i64 x).wf = true ∧ (w.alloc (.cells vs T)).cell? ⟨w.heap.size, 0 + i, none⟩ = some (.int .i64 x) := by
  intro i hi
  refine ⟨l[i], ?_, ?_⟩
  · exact List.all_eq_true.1 hw _ (List.getElem_mem hi)
  · subst hv
    have e : (w.alloc (.cells (l.map (Value.int .i64)).toArray T)).heap[w.heap.size]? = some (.cells (l.map (Value.int .i64)).toArray T (0, 0)) := by
      show (w.heap.push _)[w.heap.size]? = _
      simp
    simp only [World.cell?, e]
    simp [hi]
theorem Thr.alloc {g : Nat} {a b : World} (h : Thr g a b) (hg : g ≤ b.heap.size) (o : Obj) : Thr g a (b.alloc o) :=
  ⟨h.below.alloc hg o, fun k h1 h2 => (Below.heap_alloc _ _ _ (by have := h.below.size; omega)).trans (h.other k h1 h2)⟩
theorem Src.alloc {w : World} {g : Nat} (h : Src w g) (o : Obj) : Src (w.alloc o) g := h.below ((Below.refl _ _).alloc (by have := h.lt; omega) _)

/-- What a drawn value is: an integer. -/
def ValPost (g : Nat) (w : World) (e : Ending) (w' : World) : Prop :=
  ∃ x : Int, e = .returned (.int .i64 x) ∧ (Lit.int .i64 x).wf = true ∧ Src w' g ∧ Thr g w w'

set_option maxRecDepth 100000 in
set_option maxHeartbeats 1000000 in
theorem drawValue (g : Nat) (w : World) (h : Src w g) :
    Calls Try.prog 154 #[.pointer (some ⟨g, 0, none⟩)] w (ValPost g w) := by
  go_enter Try.func154, Try.ntmps154
  go_wp2_with fail
  refine (next _ _ _ (by decide) h).mono ?_
  rintro e w1 ⟨x, rfl, hx1, hx2, hs, ht⟩
  have HT := Lib.hid ht
  have HS := Lib.hid hs
  clear ht hs hx2
  by_cases h0 : x = 0 ∨ x = 1 ∨ x = 2
  · rcases h0 with rfl | rfl | rfl
    all_goals
      go_wp2
      go_ret
      exact ⟨_, rfl, by decide, HS.out, HT.out⟩
  · have e0 : (x == 0) = false := by simp; omega
    have e1 : (x == 1) = false := by simp; omega
    have e2 : (x == 2) = false := by simp; omega
    clear h0
    by_cases h3 : x = 3
    · subst h3
      go_wp2_with fail
      refine (pick g _ 0 7 7 _ (HS.out.alloc _) (by omega) (by omega) HS.out.lt (litCells _ [1000000, 1000001, -1000000, -1000001, -999999999999999, -1000000000000001, 9223372036854775807] _ _ rfl (by decide))).mono ?_
      rintro e w2 ⟨y, rfl, hy, hs2, ht2⟩
      have HT2 := Lib.hid ((HT.out.alloc (Nat.le_of_lt HS.out.lt) _).trans ht2)
      have HS2 := Lib.hid hs2
      clear ht2 hs2
      go_wp2
      go_ret
      exact ⟨_, rfl, hy, HS2.out, HT2.out⟩
    · have e3 : (x == 3) = false := by simp; omega
      clear h3
      by_cases h4 : x = 4
      · subst h4
        go_wp2_with fail
        refine (next _ _ _ (by decide) HS.out).mono ?_
        rintro e w2 ⟨y, rfl, hy1, hy2, hs2, ht2⟩
        have hy3 : y < 2000 := by omega
        have HT2 := Lib.hid (HT.out.trans ht2)
        have HS2 := Lib.hid hs2
        clear ht2 hs2 hy2
        go_wp2
        go_ret
        exact ⟨_, rfl, wf_small _ (by omega) (by omega), HS2.out, HT2.out⟩
      · have e4 : (x == 4) = false := by simp; omega
        clear h4
        go_wp2_with fail
        refine (next _ _ _ (by decide) HS.out).mono ?_
        rintro e w2 ⟨y, rfl, hy1, hy2, hs2, ht2⟩
        have hy3 : y < 41 := by omega
        have HT2 := Lib.hid (HT.out.trans ht2)
        have HS2 := Lib.hid hs2
        clear ht2 hs2 hy2
        go_wp2
        go_ret
        exact ⟨_, rfl, wf_small _ (by omega) (by omega), HS2.out, HT2.out⟩
end Go.Proofs.Ytcofjjipjcekjaa.V

namespace Go.Proofs.Ytcofjjipjcekjaa.V
open Go.RowKit

theorem Own.thr {w w' : World} {B g : Nat} {v : Value} {l : List Int} (h : Own w B v l) (ht : Thr g w w') (hB : g < B) : Own w' B v l := h.keep (fun k h1 h2 => ht.other k (by omega) h2)
theorem OwnM.thr {w w' : World} {B g : Nat} {v : Value} {R : List (List Int)} (h : OwnM w B v R) (ht : Thr g w w') (hB : g < B) : OwnM w' B v R := h.keep (fun k h1 h2 => ht.other k (by omega) h2)
theorem Thr.of_below {g : Nat} {w w' : World} (h : Below w.heap.size w w') (hg : g ≤ w.heap.size) : Thr g w w' := ⟨h.mono hg, fun k _ h2 => h.block k h2⟩
theorem Thr.frozen {g : Nat} {w w' : World} (h : Thr g w w') {p : Addr} (hp : p.block < w.heap.size) (hne : g < p.block) : w'.frozen? p = w.frozen? p := World.frozen?_of_block (w := w) (h.other _ hne hp)

/-- A matrix that is being drawn: the source is block g, the matrix lies in blocks from B on; only these have changed since w0. -/
def DJ (g B : Nat) (v : Value) (R : List (List Int)) (w0 w : World) : Prop := OwnM w B v R ∧ Src w g ∧ Thr g w0 w
theorem DJ.next {g B : Nat} {v : Value} {R : List (List Int)} {w0 w w' : World} (h : DJ g B v R w0 w) (hB : g < B) (hs : Src w' g) (ht : Thr g w w') : DJ g B v R w0 w' :=
  ⟨h.1.thr ht hB, hs, h.2.2.trans ht⟩

/-- A store into an entry whose row is known. -/
theorem OwnM.put {w : World} {B n cap o k t q L c : Nat} {R : List (List Int)} (h : OwnM w B (.slice (some ⟨o, 0, none⟩) n cap) R) (hi : k < n) (hj : t < (R.getD k []).length) (hc : w.cell? ⟨o, k, none⟩ = some (.slice (some ⟨q, 0, none⟩) L c)) (y : Int) :
    OwnM (w.setCell ⟨q, t, none⟩ (.int .i64 y)) B (.slice (some ⟨o, 0, none⟩) n cap) (R.set k ((R.getD k []).set t y)) := by
  obtain ⟨g, q', L', c', x, hg, -, -, -, -, h1, -, -, h2⟩ := h.at k t hi hj
  injection hg with hg
  injection hg with hg
  subst hg
  rw [hc] at h1
  injection h1 with h1
  injection h1 with h1
  injection h1 with h1
  injection h1 with h1
  subst h1
  exact h2 y

theorem Rect.set {R : List (List Int)} {n L : Nat} (h : Rect R n L) (i j : Nat) (y : Int) (hi : i < n) : Rect (R.set i ((R.getD i []).set j y)) n L := by
  refine ⟨by simpa using h.1, fun k hk => ?_⟩
  rw [getD_set _ _ _ _ _ (by rw [h.1]; exact hi)]
  by_cases e : k = i
  · rw [if_pos e]; simpa using h.2 i hi
  · rw [if_neg e]; exact h.2 k hk

/-- A store into a matrix that is being drawn. -/
theorem DJ.store {g B q t n cap : Nat} {a : Option Addr} {R R' : List (List Int)} {w0 w : World} {x : Int} (h : DJ g B (.slice a n cap) R w0 w) (hB : w0.heap.size ≤ B) (hg : g < B) (hq : B ≤ q)
    (ho : OwnM (w.setCell ⟨q, t, none⟩ (.int .i64 x)) B (.slice a n cap) R') : DJ g B (.slice a n cap) R' w0 (w.setCell ⟨q, t, none⟩ (.int .i64 x)) := by
  refine ⟨ho, h.2.1.below ?_, ?_⟩
  · exact (Below.refl _ _).setCell (p := ⟨q, t, none⟩) (by show g + 1 ≤ q; omega) _
  · refine ⟨h.2.2.below.setCell (p := ⟨q, t, none⟩) (by show g ≤ q; omega) _, fun k h1 h2 => ?_⟩
    rw [Below.heap_setCell _ _ _ _ (by show k ≠ q; omega)]
    exact h.2.2.other k h1 h2

theorem DJ.drew {g B : Nat} {v : Value} {R : List (List Int)} {w0 w : World} (h : DJ g B v R w0 w) : DJ g B v R w0 w.drew := ⟨h.1.keep (fun _ _ _ => rfl), h.2.1, h.2.2.drew⟩
theorem dj_keep {g B a k q t : Nat} {u v val : Value} {R : List (List Int)} {w0 w' wx : World} (h : w'.cell? ⟨a, k, none⟩ = some u ∧ w'.cell? ⟨q, t, none⟩ = some v ∧ w'.frozen? ⟨q, t, none⟩ = false ∧ DJ g B val R w0 w') (hB : g < B) (ha : B ≤ a) (hq : B ≤ q) (hs : Src wx g) (ht : Thr g w' wx) :
    wx.cell? ⟨a, k, none⟩ = some u ∧ wx.cell? ⟨q, t, none⟩ = some v ∧ wx.frozen? ⟨q, t, none⟩ = false ∧ DJ g B val R w0 wx := by
  obtain ⟨h1, h2, h3, h4⟩ := h
  have l1 := cell_lt h1
  have l2 := cell_lt h2
  refine ⟨?_, ?_, ?_, h4.next hB hs ht⟩
  · rw [ht.cell (p := ⟨a, k, none⟩) l1 (by show a ≠ g; omega)]; exact h1
  · rw [ht.cell (p := ⟨q, t, none⟩) l2 (by show q ≠ g; omega)]; exact h2
  · rw [ht.frozen (p := ⟨q, t, none⟩) l2 (by show g < q; omega)]; exact h3

/-- What a drawn matrix is: some list of lists of integers, in new memory. -/
def DrawM (g : Nat) (w : World) (e : Ending) (w' : World) : Prop :=
  ∃ (a : Option Addr) (n cap : Nat) (R : List (List Int)), e = .returned (.slice a n cap) ∧ OwnM w' w.heap.size (.slice a n cap) R ∧ Src w' g ∧ Thr g w w'

/-- .. with few rows. -/
def DrawMB (g : Nat) (w : World) (e : Ending) (w' : World) : Prop :=
  ∃ (a : Option Addr) (n cap : Nat) (R : List (List Int)), e = .returned (.slice a n cap) ∧ n ≤ 200 ∧ OwnM w' w.heap.size (.slice a n cap) R ∧ Src w' g ∧ Thr g w w'
theorem DrawMB.less {g : Nat} {w w' : World} {e : Ending} (h : DrawMB g w e w') : DrawM g w e w' := by
  obtain ⟨a, n, cap, R, h1, -, h2⟩ := h
  exact ⟨a, n, cap, R, h1, h2⟩

set_option maxRecDepth 100000 in
set_option maxHeartbeats 4000000 in
theorem drawSizeB (g m n : Nat) (w : World) (h : Src w g) (m1 : 1 ≤ m) (m2 : m ≤ 100) (n1 : 1 ≤ n) (n2 : n ≤ 100) :
    Calls Try.prog 135 #[.pointer (some ⟨g, 0, none⟩), .int .i64 m, .int .i64 n] w (DrawMB g w) := by
  have hgs := h.lt
  have HS := Lib.hid h
  clear h
  go_enter Try.func135, Try.ntmps135
  go_wp2_with fail
  refine (sBottom m n _ m2 n2).mono ?_
  rintro e w1 ⟨a2, cap2, rfl, ho, hb⟩
  have hz1 := hb.size
  have HO1 := Lib.hid ho
  have HS1 := Lib.hid (HS.out.below (hb.mono (show g + 1 ≤ w.heap.size from hgs)))
  have HT1 := Lib.hid (Thr.of_below (g := g) hb (Nat.le_of_lt hgs))
  clear ho hb
  go_wp2_with fail
  refine (pick g _ 0 3 3 _ (HS1.out.alloc _) (by omega) (by omega) HS1.out.lt (litCells _ [2, 3, 5] _ _ rfl (by decide))).mono ?_
  rintro e w2 ⟨many, rfl, hmany, hs2, ht2⟩
  have HMW := Lib.hid hmany
  have hJ0 : DJ g w.heap.size (.slice a2 m cap2) (M.botM m n) w w2 :=
    ⟨(HO1.out.keep (w' := w1.alloc _) (fun k _ h2 => Below.heap_alloc _ _ _ h2)).thr ht2 hgs, hs2, (HT1.out.alloc (by omega) _).trans ht2⟩
  have HJ0 := Lib.hid hJ0
  clear hs2 ht2 hJ0 hmany HO1 HS1 HT1
  go_wp2
  go_loopw [9] (fun i wr => ∃ (k : Nat) (R : List (List Int)), k ≤ m ∧ i = .int .i64 k ∧ Hid (Rect R m n) ∧ Hid (DJ g w.heap.size (.slice a2 m cap2) R w wr)) (fun i _ => m - (intOf i).toNat)
  case atStart => exact ⟨0, _, Nat.zero_le _, rfl, rect_mk _ _ _, HJ0⟩
  case round =>
    obtain ⟨k, R, hk, rfl, HR, HJ⟩ := hrel
    obtain ⟨wo, rfl⟩ : ∃ x, x = wr := ⟨_, rfl⟩
    clear HJ0
    by_cases hlt : k < m
    · have hki : (k : Int) < (m : Int) := by omega
      go_wp2
      go_loopw [10] (fun j wr => ∃ (t : Nat) (R : List (List Int)), t ≤ n ∧ j = .int .i64 t ∧ Hid (Rect R m n) ∧ Hid (DJ g w.heap.size (.slice a2 m cap2) R w wr)) (fun j _ => n - (intOf j).toNat)
      case atStart => exact ⟨0, _, Nat.zero_le _, rfl, HR, HJ⟩
      case round =>
        obtain ⟨t, R2, ht, rfl, HR2, HJ2⟩ := hrel
        clear HR HJ
        by_cases htl : t < n
        · have hti : (t : Int) < (n : Int) := by omega
          go_wp2_with fail
          refine (next g many _ HMW.out HJ2.out.2.1).mono ?_
          rintro e w3 ⟨x, rfl, hx1, -, hs3, ht3⟩
          have HJ3 := Lib.hid (HJ2.out.next hgs hs3 ht3)
          clear hs3 ht3
          by_cases hx : 0 < x
          · obtain ⟨go_, q, L3, c3, x3, rfl, hg3, hq3, hL3, -, c31, c32, f31, ho3⟩ := HJ3.out.1.at k t hlt (by rw [HR2.out.2 k hlt]; exact htl)
            rw [HR2.out.2 k hlt] at hL3
            subst hL3
            clear ho3
            have HJ4 := Lib.hid HJ3.out.drew
            go_wp2
            go_region_with (first | (go_at_call 58; refine (next g 26 _ (by decide) HJ4.out.2.1).mono ?_; rintro e wx ⟨xx, rfl, hxx, -, hs, ht⟩; obtain ⟨c31x, c32x, f31x, hjx⟩ := dj_keep (w' := w3.drew) ⟨c31, c32, f31, HJ4.out⟩ hgs hg3 hq3 hs ht; have HJX := Lib.hid hjx; clear hs ht hjx))
            all_goals
              go_wp2
              exact ⟨⟨t + 1, _, by omega, by go_num, HR2.out.set k t _ hlt, HJX.out.store (Nat.le_refl _) hgs hq3 (HJX.out.1.put hlt (by rw [HR2.out.2 k hlt]; exact htl) c31x _)⟩, by simp [intOf]; omega⟩
          · go_wp2
            go_roundw
            case rel => exact ⟨t + 1, R2, by omega, by go_num, HR2, HJ3⟩
            case measure => simp [intOf]; omega
        · obtain rfl : t = n := by omega
          go_wp2
          go_roundw
          case rel => exact ⟨k + 1, R2, by omega, by go_num, HR2, HJ2⟩
          case measure => simp [intOf]; omega
    · obtain rfl : k = m := by omega
      go_wp2_with fail
      refine (next g 60 _ (by decide) HJ.out.2.1).mono ?_
      rintro e w3 ⟨x, rfl, hx1, -, hs3, ht3⟩
      have HJ3 := Lib.hid (HJ.out.next hgs hs3 ht3)
      clear hs3 ht3
      by_cases hx0 : x = 0
      · subst hx0
        obtain ⟨go_, q, L3, c3, x3, rfl, hg3, hq3, hL3, -, c31, c32, f31, ho3⟩ := HJ3.out.1.at 0 0 (by omega) (by rw [HR.out.2 0 (by omega)]; omega)
        rw [HR.out.2 0 (by omega)] at hL3
        subst hL3
        clear ho3
        have HJ4 := Lib.hid HJ3.out.drew
        go_wp2
        go_region_with (first | (go_at_call 154; refine (drawValue g _ HJ4.out.2.1).mono ?_; rintro e wx ⟨xx, rfl, hxx, hs, ht⟩; obtain ⟨c31x, c32x, f31x, hjx⟩ := dj_keep (w' := w3.drew) ⟨c31, c32, f31, HJ4.out⟩ hgs hg3 hq3 hs ht; have HJX := Lib.hid hjx; clear hs ht hjx))
        all_goals
          go_wp2
          go_ret
          have hfin := HJX.out.store (Nat.le_refl _) hgs hq3 (HJX.out.1.put (by omega) (by rw [HR.out.2 0 (by omega)]; omega) c31x xx)
          exact ⟨_, _, _, _, rfl, by omega, hfin.1, hfin.2.1, hfin.2.2⟩
      · have e0 : (x == 0) = false := by simpa using hx0
        by_cases hx1' : x = 1
        · subst hx1'
          have hz3 : w.heap.size ≤ w3.heap.size := HJ3.out.2.2.below.size
          have hro : Hid (Own (w3.alloc (.cells #[] 2)) w3.heap.size (.slice (some ⟨w3.heap.size, 0, none⟩) 0 0) []) := own_lit0 w3 _ (Nat.le_refl _)
          have hlen := HJ3.out.1.len
          have HLn := Lib.hid hlen
          clear hlen
          go_wp2_with (at_builtin; refine appendRow w3 _ rfl (.tmp 52) (.tmp 54) rfl w.heap.size _ _ _ _ k HJ3.out.1.len.symm rfl HJ3.out.1 (b_alloc w3 _) hro.out (by go_simp) (by rw [← HLn.out]; omega) hz3 ?_)
          intro b2 c2 w4 hO4 hb4 hk4
          have hg4 : ∀ j, g ≤ j → j < w.heap.size → w4.heap[j]? = w3.heap[j]? := fun j _ h2 => by
            rw [hb4.block j h2]; exact Below.heap_alloc _ _ _ (by omega)
          have hO5 := Lib.hid hO4
          have hT4 : Hid (Thr g w w4) := by
            refine ⟨HJ3.out.2.2.below.trans (((b_alloc w3 (.cells #[] 2)).mono (show g ≤ w3.heap.size by omega)).trans (hb4.mono (show g ≤ w.heap.size by omega))), fun j h1 h2 => ?_⟩
            rw [hg4 j (by omega) h2]
            exact HJ3.out.2.2.other j h1 h2
          have hS4 : Hid (Src w4 g) := by
            obtain ⟨sa, sn, sc, st, ss, q1, q2, q3⟩ := HJ3.out.2.1
            refine ⟨sa, sn, sc, st, ss, q1.of_block (hg4 g (Nat.le_refl _) hgs), ?_, q3⟩
            exact q2.below (((b_alloc w3 (.cells #[] 2)).mono (show g ≤ w3.heap.size by omega)).trans (hb4.mono (show g ≤ w.heap.size by omega)))
          clear hO4 hb4 hk4 hg4
          go_wp2
          go_ret
          exact ⟨_, _, _, _, rfl, by omega, hO5.out, hS4.out, hT4.out⟩
        · have e1 : (x == 1) = false := by simpa using hx1'
          by_cases hx2 : x = 2
          · subst hx2
            go_wp2
            go_ret
            exact ⟨_, _, _, [], rfl, by omega, ownM_nil _ _, HJ3.out.2.1, HJ3.out.2.2⟩
          · have e2 : (x == 2) = false := by simpa using hx2
            go_wp2
            go_ret
            exact ⟨_, _, _, _, rfl, by omega, HJ3.out.1, HJ3.out.2.1, HJ3.out.2.2⟩
theorem drawSize (g m n : Nat) (w : World) (h : Src w g) (m1 : 1 ≤ m) (m2 : m ≤ 100) (n1 : 1 ≤ n) (n2 : n ≤ 100) :
    Calls Try.prog 135 #[.pointer (some ⟨g, 0, none⟩), .int .i64 m, .int .i64 n] w (DrawM g w) :=
  (drawSizeB g m n w h m1 m2 n1 n2).mono fun _ _ h => h.less
end Go.Proofs.Ytcofjjipjcekjaa.V

namespace Go.Proofs.Ytcofjjipjcekjaa.V
open Go.RowKit


/-- A drawn matrix, as a law is handed it. -/
def DrawnM (w : World) (e : Ending) (w' : World) : Prop :=
  ∃ (a : Option Addr) (n cap : Nat) (R : List (List Int)), e = .returned (.slice a n cap) ∧ Mat w' a n R ∧ Below w.heap.size w w'

end Go.Proofs.Ytcofjjipjcekjaa.V

namespace Go.Proofs.Ytcofjjipjcekjaa.V
open Go.RowKit

/-- A matrix of one row that is not its own. -/
theorem mat_one' (w : World) (a : Option Addr) (n cap : Nat) (l : List Int) (h : Ints .i64 w a n l) : Mat (w.alloc (.cells #[.slice a n cap] 34)) (some ⟨w.heap.size, 0, none⟩) 1 [l] := by
  refine ⟨rfl, by decide, .inr ⟨_, _, rfl, by simp, fun i hi => ?_⟩⟩
  obtain rfl : i = 0 := by omega
  have hc := cell_one_new w (.slice a n cap) 34 0 _ rfl
  refine ⟨a, cap, ?_, ?_⟩
  · show _ = some (Value.slice a l.length cap)
    rw [h.1]; exact hc
  · show Ints _ _ _ l.length l
    rw [h.1]; exact h.below (b_alloc w _)

set_option maxRecDepth 100000 in
set_option maxHeartbeats 1000000 in
theorem drawSquareB (g : Nat) (w : World) (h : Src w g) : Calls Try.prog 95 #[.pointer (some ⟨g, 0, none⟩)] w (DrawMB g w) := by
  have HS := Lib.hid h
  have hgl := h.lt
  clear h
  go_enter Try.func95, Try.ntmps95
  go_wp2_with fail
  refine (next g 5 _ (by decide) HS.out).mono ?_
  rintro e w1 ⟨x, rfl, hx1, hx2, hs1, ht1⟩
  obtain ⟨x, rfl⟩ := Int.eq_ofNat_of_zero_le hx1
  have hx3 : x < 5 := by omega
  have HS1 := Lib.hid hs1
  have HT1 := Lib.hid ht1
  have e1 : (1 : Int) + (x : Int) = ((1 + x : Nat) : Int) := by omega
  have E1 := Lib.hid e1
  clear e1 hs1 ht1 hx2 hx1
  go_wp2_with fail
  rw [E1.out]
  refine (drawSizeB g (1 + x) (1 + x) _ HS1.out (by omega) (by omega) (by omega) (by omega)).mono ?_
  rintro e w3 ⟨a, n, cap, R, rfl, hn, ho, hs3, ht3⟩
  have HO := Lib.hid (ho.mono HT1.out.below.size)
  have HS3 := Lib.hid hs3
  have HT3 := Lib.hid (HT1.out.trans ht3)
  clear ho hs3 ht3
  go_wp2
  go_ret
  exact ⟨a, n, cap, R, rfl, hn, HO.out, HS3.out, HT3.out⟩
theorem drawSquare (g : Nat) (w : World) (h : Src w g) : Calls Try.prog 95 #[.pointer (some ⟨g, 0, none⟩)] w (DrawM g w) :=
  (drawSquareB g w h).mono fun _ _ h => h.less

/-- A drawn matrix and a drawn integer. -/
def DrawnMI (w : World) (e : Ending) (w' : World) : Prop :=
  ∃ (a : Option Addr) (n cap : Nat) (R : List (List Int)) (x : Int), e = .returned (.tuple #[.slice a n cap, .int .i64 x]) ∧ Mat w' a n R ∧ Below w.heap.size w w'


/-- A drawn integer; two of them. -/
def DrawnI (w : World) (e : Ending) (w' : World) : Prop := ∃ x : Int, e = .returned (.int .i64 x) ∧ Below w.heap.size w w'
def DrawnII (w : World) (e : Ending) (w' : World) : Prop := ∃ x y : Int, e = .returned (.tuple #[.int .i64 x, .int .i64 y]) ∧ Below w.heap.size w w'


end Go.Proofs.Ytcofjjipjcekjaa.V

namespace Go.Proofs.Ytcofjjipjcekjaa.V
open Go.RowKit

theorem Thr.then {g : Nat} {w wx w' : World} (h : Thr g w wx) (hb : Below w.heap.size wx w') (hg : g ≤ w.heap.size) : Thr g w w' :=
  ⟨h.below.trans (hb.mono hg), fun k h1 h2 => (hb.block k h2).trans (h.other k h1 h2)⟩
theorem Src.then {g : Nat} {wx w' : World} {B : Nat} (h : Src wx g) (hb : Below B wx w') (hg : g < B) : Src w' g := h.below (hb.mono hg)

/-- A list that is being drawn. -/
def DL (g B : Nat) (v : Value) (l : List Int) (w0 w : World) : Prop := Own w B v l ∧ Src w g ∧ Thr g w0 w
theorem DL.next {g B : Nat} {v : Value} {l : List Int} {w0 w w' : World} (h : DL g B v l w0 w) (hB : g < B) (hs : Src w' g) (ht : Thr g w w') : DL g B v l w0 w' :=
  ⟨h.1.thr ht hB, hs, h.2.2.trans ht⟩
theorem DL.app {g : Nat} {v v' : Value} {l l' : List Int} {w0 w w' : World} (h : DL g w0.heap.size v l w0 w) (hg : g < w0.heap.size) (ho : Own w' w0.heap.size v' l') (hb : Below w0.heap.size w w') : DL g w0.heap.size v' l' w0 w' :=
  ⟨ho, h.2.1.then hb hg, h.2.2.then hb (Nat.le_of_lt hg)⟩

/-- A drawn vector: some list of integers, in new memory. -/
def DrawV (g : Nat) (w : World) (e : Ending) (w' : World) : Prop :=
  ∃ (a : Option Addr) (n cap : Nat) (l : List Int), e = .returned (.slice a n cap) ∧ Own w' w.heap.size (.slice a n cap) l ∧ Src w' g ∧ Thr g w w'


/-- A drawn matrix and a drawn vector, as a law is handed them. -/
def DrawnMV (w : World) (e : Ending) (w' : World) : Prop :=
  ∃ (a : Option Addr) (n cap : Nat) (R : List (List Int)) (a' : Option Addr) (n' cap' : Nat) (l : List Int), e = .returned (.tuple #[.slice a n cap, .slice a' n' cap']) ∧ Mat w' a n R ∧ Ints .i64 w' a' n' l ∧ Below w.heap.size w w'

end Go.Proofs.Ytcofjjipjcekjaa.V

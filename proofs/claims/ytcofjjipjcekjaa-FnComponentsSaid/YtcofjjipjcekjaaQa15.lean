/- Texts laid together: Clo5, Egs, Stc, Fix1, Pot1, Egv, Img. -/
import Derived.Test.YtcofjjipjcekjaaQa14
import Derived.Test.YtcofjjipjcekjaaQa11
import Derived.Test.YtcofjjipjcekjaaQa3
import Derived.Test.YtcofjjipjcekjaaQa8
import Derived.Test.YtcofjjipjcekjaaQa6
import Derived.Deep.RegionWith
import Derived.Deep.RegionHeld3
import Derived.Test.YtcofjjipjcekjaaQa13
import Derived.Test.YtcofjjipjcekjaaQa5
set_option linter.unusedSimpArgs false
set_option linter.unusedVariables false
set_option linter.unusedSectionVars false
namespace Go.Proofs.Ytcofjjipjcekjaa.V
open Go.RowKit

set_option maxRecDepth 100000 in
set_option maxHeartbeats 400000 in
theorem sResult (a : Option Addr) (n cap : Nat) (R : List (List Int)) (b : Bool) (hb : M.isMat R = b) (w : World) (h : Mat w a n R) :
    Calls Try.prog 88 #[.slice a n cap] w fun e w' => e = .returned (if b then .tuple #[.slice a n cap, .int .i64 0] else .tuple #[.slice none 0 0, .int .i64 3]) ∧ ∃ q, w' = w.drewN q := by
  have HA := Lib.hid h
  have HB := Lib.hid hb
  clear h hb
  cases b with
  | true =>
    go_enter Try.func88, Try.ntmps88
    go_wp2_with (go_at_call 98; refine (sIsMatrix_b _ _ _ R _ true HB.out HA.out).mono ?_; rintro e w' ⟨rfl, q, rfl⟩)
    go_ret2
    exact ⟨rfl, _, rfl⟩
  | false =>
    go_enter Try.func88, Try.ntmps88
    go_wp2_with (go_at_call 98; refine (sIsMatrix_b _ _ _ R _ false HB.out HA.out).mono ?_; rintro e w' ⟨rfl, q, rfl⟩)
    go_ret2
    exact ⟨rfl, _, rfl⟩


end Go.Proofs.Ytcofjjipjcekjaa.V

namespace Go.Proofs.Ytcofjjipjcekjaa
namespace M
def strRes (R : List (List Int)) (k : Int) : List (List Int) × Int := if sqB R then (if 1 ≤ k ∧ k ≤ 1000000 then (if isMat (shM R 0 k) then (shM R 0 k, 0) else ([], 3)) else ([], 2)) else ([], 1)
theorem strRes_ok (R : List (List Int)) (k : Int) : okM (strRes R k).1 := by
  unfold strRes
  split
  · split
    · split
      · next h => exact .inr h
      · exact .inl rfl
    · exact .inl rfl
  · exact .inl rfl
end M
namespace V
open Go.RowKit
set_option maxRecDepth 100000 in
set_option maxHeartbeats 400000 in
theorem sIsEigenVector (a : Option Addr) (n cap : Nat) (R : List (List Int)) (num den : Int) (a' : Option Addr) (N cap' : Nat) (l : List Int) (w : World) (h : Mat w a n R) (h' : Ints .i64 w a' N l) :
    Calls Try.prog 36 #[.slice a n cap, .agg #[.int .i64 num, .int .i64 den], .slice a' N cap'] w fun e w' => e = .returned (.bool (M.eigB R num den l)) ∧ Below w.heap.size w w' := by
  obtain ⟨wb, hwb⟩ : ∃ x, x = w.alloc (rbox num den) := ⟨_, rfl⟩
  have HX : Hid (Boxed w wb num den) := by show Boxed _ _ _ _; rw [hwb]; exact boxed _ _ _
  have HA := Lib.hid (h.below HX.out.below)
  have HI := Lib.hid (h'.below HX.out.below)
  obtain ⟨c0, c1⟩ := HX.out.cells (Below.refl _ _)
  have hz := HX.out.size
  obtain ⟨k, hk⟩ : ∃ k, k = M.cmpE R num den l := ⟨_, rfl⟩
  have HK := Lib.hid hk
  have HE : Hid (M.eigB R num den l = (k == 0)) := by show _ = _; rw [M.eig_cmp, hk]; rfl
  clear h h' hk
  go_enter Try.func36, Try.ntmps36
  go_wp2_with fail
  simp only [← hwb] at *
  clear hwb
  refine (sCompareE _ _ _ R num den _ _ _ l _ HA.out HI.out).mono ?_
  rintro e w1 ⟨rfl, hb⟩
  rw [← HK.out]
  have HB := Lib.hid (HX.out.trans hb)
  clear hb
  go_wp2
  go_ret
  exact ⟨retB HE.out.symm, HB.out⟩
set_option maxRecDepth 100000 in
set_option maxHeartbeats 400000 in
theorem sIsSubEigen (a : Option Addr) (n cap : Nat) (R : List (List Int)) (num den : Int) (a' : Option Addr) (N cap' : Nat) (l : List Int) (w : World) (h : Mat w a n R) (h' : Ints .i64 w a' N l) :
    Calls Try.prog 41 #[.slice a n cap, .agg #[.int .i64 num, .int .i64 den], .slice a' N cap'] w fun e w' => e = .returned (.bool (M.subB R num den l)) ∧ Below w.heap.size w w' := by
  obtain ⟨wb, hwb⟩ : ∃ x, x = w.alloc (rbox num den) := ⟨_, rfl⟩
  have HX : Hid (Boxed w wb num den) := by show Boxed _ _ _ _; rw [hwb]; exact boxed _ _ _
  have HA := Lib.hid (h.below HX.out.below)
  have HI := Lib.hid (h'.below HX.out.below)
  obtain ⟨c0, c1⟩ := HX.out.cells (Below.refl _ _)
  have hz := HX.out.size
  obtain ⟨k, hk⟩ : ∃ k, k = M.cmpE R num den l := ⟨_, rfl⟩
  have HK := Lib.hid hk
  have HE : Hid (M.subB R num den l = decide (k ≤ 0)) := by show _ = _; rw [M.sub_cmp, hk]
  clear h h' hk
  go_enter Try.func41, Try.ntmps41
  go_wp2_with fail
  simp only [← hwb] at *
  clear hwb
  refine (sCompareE _ _ _ R num den _ _ _ l _ HA.out HI.out).mono ?_
  rintro e w1 ⟨rfl, hb⟩
  rw [← HK.out]
  have HB := Lib.hid (HX.out.trans hb)
  clear hb
  go_wp2
  go_ret
  exact ⟨retB HE.out.symm, HB.out⟩
set_option maxRecDepth 100000 in
set_option maxHeartbeats 1000000 in
theorem stretchMatrix (a : Option Addr) (n cap : Nat) (R : List (List Int)) (k : Int) (w : World) (h : Mat w a n R) :
    Calls Try.prog 48 #[.slice a n cap, .int .i64 k] w (MRes (M.strRes R k) w) := by
  have HA := Lib.hid h
  have HRn := Lib.hid h.1
  by_cases hs : M.sqB R = true
  · have HS := Lib.hid hs
    by_cases hk : 1 ≤ k ∧ k ≤ 1000000
    · obtain ⟨r1, n1, n2, r4⟩ := sq_parts HA.out hs
      have HQ := Lib.hid r1
      have HSm := Lib.hid r4
      obtain ⟨k1, k2⟩ := hk
      obtain ⟨b, hb⟩ : ∃ b, b = M.isMat (M.shM R 0 k) := ⟨_, rfl⟩
      have HM := Lib.hid hb.symm
      have HE : Hid (M.strRes R k = if b then (M.shM R 0 k, 0) else ([], 3)) := by
        show _ = _; rw [hb]; unfold M.strRes; rw [if_pos hs, if_pos ⟨k1, k2⟩]
      have HSh : Hid (M.mk n n (M.shf (M.ent R) 0 k) = M.shM R 0 k) := by show _ = _; unfold M.shM; rw [HRn.out]
      have HNr : Hid (M.Near 0 k) := by show M.Near 0 k; unfold M.Near; omega
      clear h hs hb r1 r4
      go_enter Try.func48, Try.ntmps48
      go_wp2_with fail
      refine (isSquare_b _ _ _ R _ true HS.out HA.out).mono ?_
      rintro e w' ⟨rfl, rfl⟩
      go_wp2_with fail
      refine (shiftedBy _ _ _ R _ _ _ HA.out HQ.out n1 n2 HSm.out HNr.out).mono ?_
      rintro e w2 ⟨a2, cap2, rfl, hO, hb⟩
      rw [HSh.out] at hO
      have HO := Lib.hid hO
      have HB2 := Lib.hid hb
      clear hO hb
      cases b with
      | true =>
        go_wp2_with fail
        refine (checkedMatrix_t _ _ _ _ _ HM.out HO.out.mat).mono ?_
        rintro e w' ⟨rfl, rfl⟩
        go_wp2
        go_ret2
        rw [HE.out]
        exact ⟨_, _, _, rfl, HO.out, HB2.out⟩
      | false =>
        go_wp2_with fail
        refine (checkedMatrix_f _ _ _ _ _ HM.out HO.out.mat).mono ?_
        rintro e w' ⟨rfl, rfl⟩
        go_wp2
        go_ret2
        exact MRes.nil HE.out HB2.out
    · have HE : Hid (M.strRes R k = ([], 2)) := by show _ = _; unfold M.strRes; rw [if_pos hs, if_neg hk]
      have hk' : k < 1 ∨ 1000000 < k := by omega
      clear h hs hk
      rcases hk' with hk | hk
      · go_enter Try.func48, Try.ntmps48
        go_wp2_with fail
        refine (isSquare_b _ _ _ R _ true HS.out HA.out).mono ?_
        rintro e w' ⟨rfl, rfl⟩
        go_wp2
        go_ret2
        exact MRes.nil HE.out (Below.refl _ _)
      · have hk1 : ¬ k < 1 := by omega
        go_enter Try.func48, Try.ntmps48
        go_wp2_with fail
        refine (isSquare_b _ _ _ R _ true HS.out HA.out).mono ?_
        rintro e w' ⟨rfl, rfl⟩
        go_wp2
        go_ret2
        exact MRes.nil HE.out (Below.refl _ _)
  · simp only [Bool.not_eq_true] at hs
    have HS := Lib.hid hs
    have HE : Hid (M.strRes R k = ([], 1)) := by show _ = _; unfold M.strRes; rw [hs]; rfl
    clear h hs
    go_enter Try.func48, Try.ntmps48
    go_wp2_with fail
    refine (isSquare_b _ _ _ R _ false HS.out HA.out).mono ?_
    rintro e w' ⟨rfl, rfl⟩
    go_wp2
    go_ret2
    exact MRes.nil HE.out (Below.refl _ _)
set_option maxRecDepth 100000 in
set_option maxHeartbeats 1000000 in
theorem sStretchMatrix (a : Option Addr) (n cap : Nat) (R : List (List Int)) (k : Int) (w : World) (h : Mat w a n R) :
    Calls Try.prog 47 #[.slice a n cap, .int .i64 k] w (MRes (M.strRes R k) w) := by
  have HA := Lib.hid h
  have HRn := Lib.hid h.1
  by_cases hs : M.sqB R = true
  · have HS := Lib.hid hs
    obtain ⟨c, hc⟩ : ∃ c, c = (decide (1 ≤ k) && decide (k ≤ 1000000)) := ⟨_, rfl⟩
    have HC := Lib.hid hc
    cases c with
    | true =>
      have hk : 1 ≤ k ∧ k ≤ 1000000 := by simpa using hc.symm
      obtain ⟨r1, n1, n2, r4⟩ := sq_parts HA.out hs
      have HQ := Lib.hid r1
      have HSm := Lib.hid r4
      obtain ⟨k1, k2⟩ := hk
      obtain ⟨b, hb⟩ : ∃ b, b = M.isMat (M.shM R 0 k) := ⟨_, rfl⟩
      have HM := Lib.hid hb.symm
      have HE : Hid (M.strRes R k = if b then (M.shM R 0 k, 0) else ([], 3)) := by
        show _ = _; rw [hb]; unfold M.strRes; rw [if_pos hs, if_pos ⟨k1, k2⟩]
      have HSh : Hid (M.mk n n (M.shf (M.ent R) 0 k) = M.shM R 0 k) := by show _ = _; unfold M.shM; rw [HRn.out]
      clear h hs hb r1 r4 hc
      go_enter Try.func47, Try.ntmps47
      go_wp2_with fail
      refine (sSquare_b _ _ _ R _ true HS.out HA.out).mono ?_
      rintro e w' ⟨rfl, q, rfl⟩
      go_wp2_with fail
      refine (sIn _ _ _ _).mono ?_
      rintro e w' ⟨rfl, rfl⟩
      rw [← HC.out]
      go_wp2_with fail
      refine (sStretch _ _ _ R k _ (HA.out.below (b_draws _ _)) HQ.out n1 n2 HSm.out k1 k2).mono ?_
      rintro e w2 ⟨a2, cap2, rfl, hO, hb⟩
      rw [HSh.out] at hO
      have HO := Lib.hid hO
      have HB2 := Lib.hid ((b_draws w q).trans hb)
      clear hO hb
      cases b with
      | true =>
        go_wp2_with fail
        refine (sResult _ _ _ _ true HM.out _ HO.out.mat).mono ?_
        rintro e w' ⟨rfl, q2, rfl⟩
        go_wp2
        go_ret2
        rw [HE.out]
        exact ⟨_, _, _, rfl, HO.out.below (b_draws _ _), below_drewN HB2.out _⟩
      | false =>
        go_wp2_with fail
        refine (sResult _ _ _ _ false HM.out _ HO.out.mat).mono ?_
        rintro e w' ⟨rfl, q2, rfl⟩
        go_wp2
        go_ret2
        exact MRes.nil HE.out (below_drewN HB2.out _)
    | false =>
      have HE : Hid (M.strRes R k = ([], 2)) := by
        show _ = _
        unfold M.strRes
        rw [if_pos hs, if_neg]
        intro k
        rw [decide_eq_true k.1, decide_eq_true k.2] at hc
        cases hc
      clear h hs hc
      go_enter Try.func47, Try.ntmps47
      go_wp2_with fail
      refine (sSquare_b _ _ _ R _ true HS.out HA.out).mono ?_
      rintro e w' ⟨rfl, q, rfl⟩
      go_wp2_with fail
      refine (sIn _ _ _ _).mono ?_
      rintro e w' ⟨rfl, rfl⟩
      rw [← HC.out]
      go_wp2
      go_ret2
      exact MRes.nil HE.out (b_draws _ _)
  · simp only [Bool.not_eq_true] at hs
    have HS := Lib.hid hs
    have HE : Hid (M.strRes R k = ([], 1)) := by show _ = _; unfold M.strRes; rw [hs]; rfl
    clear h hs
    go_enter Try.func47, Try.ntmps47
    go_wp2_with fail
    refine (sSquare_b _ _ _ R _ false HS.out HA.out).mono ?_
    rintro e w' ⟨rfl, q, rfl⟩
    go_wp2
    go_ret2
    exact MRes.nil HE.out (b_draws _ _)
end V
end Go.Proofs.Ytcofjjipjcekjaa

namespace Go.Proofs.Ytcofjjipjcekjaa
namespace M
def stcM (S : Nat → Nat → Int) (n : Nat) : List (List Int) := mk n n fun i j => ent (mk n n (starF S n)) j i
end M
namespace V
set_option maxRecDepth 100000
open Go.RowKit
set_option maxRecDepth 100000 in
set_option maxHeartbeats 2000000 in
theorem starColumns (a : Option Addr) (n cap : Nat) (R : List (List Int)) (num den : Int) (w0 : World) (h : Mat w0 a n R) (hr : Rect R n n) (n1 : 1 ≤ n) (n2 : n ≤ 10) (hs : ∀ i j, i < n → j < n → M.Sm 1000000 (M.ent R i j)) (hab : M.Near num den) (hp : M.noPos (M.shf (M.ent R) num den) n = true) :
    Calls Try.prog 85 #[.slice a n cap, .agg #[.int .i64 num, .int .i64 den]] w0 (MPost n (M.stcM (M.shf (M.ent R) num den) n) w0) := by
  obtain ⟨w, hwd⟩ : ∃ w, w = w0.alloc (rbox num den) := ⟨_, rfl⟩
  have HX : Hid (Boxed w0 w num den) := by show Boxed _ _ _ _; rw [hwd]; exact boxed _ _ _
  have HA : Hid (Mat w a n R) := h.below HX.out.below
  have HR := Lib.hid hr
  have HS := Lib.hid hs
  have HN := Lib.hid hab
  have HSt := Lib.hid (M.star_shift hp)
  have HSh := Lib.hid (M.sh_sm hs hab)
  obtain ⟨p0, p1⟩ := HX.out.cells (Below.refl _ _)
  have hz := HX.out.size
  clear h hr hs hab hp
  go_enter Try.func85, Try.ntmps85
  go_wp2_with fail
  simp only [← hwd] at *
  clear hwd
  refine (shiftedBy _ _ _ R num den _ HA.out HR.out n1 n2 HS.out HN.out).mono ?_
  rintro e w2 ⟨a2, cap2, rfl, hO, hb⟩
  generalize M.shf (M.ent R) num den = S at *
  have HSq : Hid (Sq w2 a2 n (M.mk n n S)) := ⟨hO.mat, rect_mk _ _ _, fun i j hi hj => by rw [M.ent_mk _ _ _ _ _ hi hj]; exact HSh.out i j hi hj, n1, n2⟩
  have HB2 := Lib.hid (HX.out.below.trans (hb.mono HX.out.below.size))
  clear hO hb p0 p1
  go_wp2_with fail
  refine (starOf _ _ _ (M.mk n n S) _ HSq.out).mono ?_
  rintro e w3 ⟨a3, m3, c3, rfl, hO, hb⟩
  rw [HSt.out] at hO
  have hm3 : m3 = n := by have := hO.len; simpa using this
  subst hm3
  have HO3 := Lib.hid hO
  have HB3 := Lib.hid (HB2.out.trans (hb.mono HB2.out.size))
  rw [HSt.out]
  clear hO hb
  go_wp2_with fail
  refine (transposed _ _ _ m3 (M.mk m3 m3 (M.starF S m3)) _ HO3.out.mat (rect_mk _ _ _) n1 n2 n1 n2).mono ?_
  rintro e w4 ⟨a4, c4, rfl, hO, hb⟩
  have HO4 := Lib.hid (hO.mono HB3.out.size)
  have HB4 := Lib.hid (HB3.out.trans (hb.mono HB3.out.size))
  clear hO hb
  go_wp2
  go_ret
  exact ⟨_, _, rfl, HO4.out, HB4.out⟩
end V
end Go.Proofs.Ytcofjjipjcekjaa

namespace Go.Proofs.Ytcofjjipjcekjaa.V
open Go.RowKit

/-- What the least fixed point of a matrix and a vector that fit is. -/
def M.lfpL (R : List (List Int)) (n : Nat) (l : List Int) : List Int × Int := if M.noPos (M.ent R) n then (if M.isVec (M.applyM (M.starM R n) l) then (M.applyM (M.starM R n) l, 0) else ([], 3)) else ([], 5)

end Go.Proofs.Ytcofjjipjcekjaa.V

namespace Go.Proofs.Ytcofjjipjcekjaa
namespace M
theorem noPos_mk (n : Nat) (f : Nat → Nat → Int) : noPos (ent (mk n n f)) n = noPos f n := noPos_congr fun _ _ hi hj => ent_mk _ _ _ _ _ hi hj
theorem starM_mk (n : Nat) (f : Nat → Nat → Int) : starM (mk n n f) n = mk n n (starF f n) := mk_congr fun _ hi _ hj => starF_congr (fun _ _ hi hj => ent_mk _ _ _ _ _ hi hj) hi hj
def finV (x : Int) : Bool := isFin x
theorem zeros_len (n : Nat) : (zerosL n).length = n := by simp [zerosL]
theorem zeros_made (n : Nat) : ((List.range n).map fun _ => (0 : Int)) = zerosL n := by
  unfold zerosL
  apply List.ext_getElem
  · simp
  · intro i h1 h2; simp
end M
namespace V
open Go.RowKit
theorem sq_shift {w : World} {a : Option Addr} {n : Nat} {f : Nat → Nat → Int} (h : Mat w a n (M.mk n n f)) (hf : ∀ i j, i < n → j < n → M.Sm 1000001000000 (f i j)) (n1 : 1 ≤ n) (n2 : n ≤ 10) : Sq w a n (M.mk n n f) :=
  ⟨h, rect_mk _ _ _, fun i j hi hj => by rw [M.ent_mk _ _ _ _ _ hi hj]; exact hf i j hi hj, n1, n2⟩
set_option maxRecDepth 100000 in
set_option maxHeartbeats 400000 in
theorem sAllF (a : Option Addr) (n cap : Nat) (l : List Int) (w : World) (h : Ints .i64 w a n l) :
    Calls Try.prog 92 #[.slice a n cap, .bool true] w fun e w' => e = .returned (.bool (l.all M.isFin)) ∧ w = w' := by
  obtain ⟨hl, hm, hr⟩ := h
  unfold maxLen at hm
  have HL := Lib.hid hl
  clear hl
  go_enter Try.func92, Try.ntmps92
  go_wp2
  go_loop [5] (fun i => ∃ k : Nat, k ≤ n ∧ i = .int .i64 k ∧ Hid ((l.take k).all M.isFin = true)) (fun i => n - (intOf i).toNat)
  case atStart => exact ⟨0, Nat.zero_le _, rfl, rfl⟩
  case round =>
    obtain ⟨k, hk, rfl, HA⟩ := hrel
    by_cases hlt : k < n
    · rcases hr with h0 | ⟨b, off, rfl, hbl, hc⟩
      · omega
      · have hck := hc k hlt
        have hsn := M.take_snoc l k (by have := HL.out; omega)
        obtain ⟨x, hx⟩ : ∃ x, x = l.getD k 0 := ⟨_, rfl⟩
        rw [← hx] at hck hsn
        have HX := Lib.hid hx
        have HS := Lib.hid hsn
        clear hc hx hsn
        by_cases hb : x = -1000000000000000
        · have HF : Hid (l.all M.isFin = false) := M.all_false _ l k (by have := HL.out; omega) (by rw [← HX.out, hb]; rfl)
          have hv : M.isVal x = true := by rw [hb]; exact M.bot_val
          subst hb
          go_wp2_with (first | (go_at_call 133; refine (sIsValue _ _).mono ?_; rintro e w' ⟨rfl, rfl⟩))
          go_ret
          exact ⟨retB (by rw [HF.out]), rfl⟩
        · have hb2 : (x == -1000000000000000) = false := by simpa using hb
          have hvf : M.isVal x = M.isFin x := by unfold M.isVal; rw [decide_eq_false hb, Bool.false_or]
          by_cases hv : M.isVal x = true
          · have HA2 : Hid ((l.take (k + 1)).all M.isFin = true) := by show _ = _; rw [HS.out, M.all_snoc, HA.out, ← hvf, hv]; rfl
            clear hvf
            go_wp2_with (first | (go_at_call 133; refine (sIsValue _ _).mono ?_; rintro e w' ⟨rfl, rfl⟩))
            go_round
            case rel => exact ⟨k + 1, by omega, by go_num, HA2⟩
            case measure => simp [intOf]; omega
          · simp only [Bool.not_eq_true] at hv
            have HF : Hid (l.all M.isFin = false) := M.all_false _ l k (by have := HL.out; omega) (by rw [← HX.out, ← hvf, hv])
            clear hvf
            go_wp2_with (first | (go_at_call 133; refine (sIsValue _ _).mono ?_; rintro e w' ⟨rfl, rfl⟩))
            go_ret
            exact ⟨retB (by rw [HF.out]), rfl⟩
    · have hkn : k = n := by omega
      subst hkn
      have HT : Hid (l.take k = l) := M.take_all l k (by have := HL.out; omega)
      clear hr
      go_wp2
      go_ret
      exact ⟨retB (by rw [← HT.out, HA.out]), rfl⟩
theorem sAllF_b (a : Option Addr) (n cap : Nat) (l : List Int) (b : Bool) (hb : l.all M.isFin = b) (w : World) (h : Ints .i64 w a n l) :
    Calls Try.prog 92 #[.slice a n cap, .bool true] w fun e w' => e = .returned (.bool b) ∧ w = w' := by subst hb; exact sAllF a n cap l w h
/-- The plain answer, by the shifted matrix. -/
theorem pot_lfp {R : List (List Int)} {n : Nat} {num den : Int} (hn : R.length = n) (hs : M.sqB R = true) (hr : M.isRat num den = true) : M.potRes R num den = M.lfpL (M.mk n n (M.shf (M.ent R) num den)) n (M.zerosL n) := by
  subst hn
  unfold M.potRes M.lfpL
  rw [hs, hr, M.noPos_mk]
  rfl
end V
end Go.Proofs.Ytcofjjipjcekjaa

namespace Go.Proofs.Ytcofjjipjcekjaa
namespace M
def eigL (R : List (List Int)) : List Int := (List.range R.length).map fun i => starF (shf (ent R) (bestR (ent R) R.length).1 (bestR (ent R) R.length).2) R.length i (vx (bestCyc R) 0)
def eigOk (R : List (List Int)) : List Int × (Int × Int) × Int := if isVec (eigL R) then (eigL R, bestR (ent R) R.length, 0) else ([], (0, 0), 3)
def eigRes (R : List (List Int)) : List Int × (Int × Int) × Int := if (cycMeanRes R).2 = 0 then eigOk R else ([], (0, 0), (cycMeanRes R).2)
/-- What is at hand where there is a cycle mean. -/
theorem eig_t {R : List (List Int)} (h : (cycMeanRes R).2 = 0) : ∃ (c : Nat) (L : List Int), sqB R = true ∧ hasCyc (ent R) R.length = true ∧ Near (bestR (ent R) R.length).1 (bestR (ent R) R.length).2 ∧ noPos (shf (ent R) (bestR (ent R) R.length).1 (bestR (ent R) R.length).2) R.length = true ∧ bestCyc R = (c : Int) :: L ∧ c < R.length ∧ vx (bestCyc R) 0 = c ∧
    overL (bestF (shf (ent R) (bestR (ent R) R.length).1 (bestR (ent R) R.length).2) R.length) R.length (-1) = bestCyc R := by
  obtain ⟨h1, h2, h3, h4⟩ := cyc_t h
  obtain ⟨n1, n2, hA⟩ := sq_sm h1
  obtain ⟨hbest, hnear, -⟩ := bestR_best n2 hA h2
  have hp := noPos_of_walk n2 hA hnear fun v s w _ _ h3 h4 _ h6 => hbest.2.2.1 v s w h3 h4 h6
  obtain ⟨q1, -, q3, q4⟩ := best_cyc h1 h2
  have hn : nodesB R.length (bestCyc R) = true := by
    unfold cycB at q1
    rw [Bool.and_eq_true, Bool.and_eq_true, Bool.and_eq_true] at q1
    exact q1.1.1.2
  have hlt := vx_lt hn (k := 0) (by omega)
  have hat := nodesB_at hn (k := 0) (by omega)
  cases e : bestCyc R with
  | nil => rw [e] at q3; simp at q3
  | cons y L =>
    rw [e] at hlt hat
    have hy : vx (y :: L) 0 = y.toNat := rfl
    have hy0 : (y :: L).getD 0 0 = y := rfl
    refine ⟨y.toNat, L, h1, h2, hnear, hp, ?_, by rw [hy] at hlt; exact hlt, hy, by rw [best_over n2 (sh_sm hA hnear) hp, ← e]; rfl⟩
    have : (0 : Int) ≤ y := by rw [hy0] at hat; omega
    congr 1
    omega
theorem eig_row {R : List (List Int)} {c : Nat} (hc : c < R.length) (hv : vx (bestCyc R) 0 = c) :
    (stcM (shf (ent R) (bestR (ent R) R.length).1 (bestR (ent R) R.length).2) R.length).getD c [] = eigL R := by
  unfold stcM
  rw [mk_row _ _ _ _ hc]
  unfold eigL
  refine List.map_congr_left fun i hi => ?_
  rw [ent_mk _ _ _ _ _ (List.mem_range.1 hi) hc, hv]
theorem eigRes_len (R : List (List Int)) : (eigRes R).1.length ≤ 10 := by
  unfold eigRes eigOk
  split
  · split
    · next h => exact (isVec_t h).2.1
    · simp
  · simp
theorem eigL_len (R : List (List Int)) : (eigL R).length = R.length := by unfold eigL; simp
end M
namespace V
set_option maxRecDepth 100000
open Go.RowKit
def EPost (r : List Int × (Int × Int) × Int) (w : World) (e : Ending) (w' : World) : Prop :=
  ∃ b m c, e = .returned (.tuple #[.slice b m c, .agg #[.int .i64 r.2.1.1, .int .i64 r.2.1.2], .int .i64 r.2.2]) ∧ Own w' w.heap.size (.slice b m c) r.1 ∧ Below w.heap.size w w'
theorem EPost.nil {r : List Int × (Int × Int) × Int} {c : Int} {w w' : World} (hr : r = ([], (0, 0), c)) (hb : Below w.heap.size w w') : EPost r w (.returned (.tuple #[.slice none 0 0, .agg #[.int .i64 0, .int .i64 0], .int .i64 c])) w' := by
  subst hr; exact ⟨none, 0, 0, rfl, own_nil _ _, hb⟩
theorem keep2' {w0 w1 w2 : World} {b i : Nat} {x : Value} (hb0 : b < w0.heap.size) (h : w1.cell? ⟨b, i, none⟩ = some x ∧ Below w0.heap.size w0 w1) (hb : Below w1.heap.size w1 w2) : w2.cell? ⟨b, i, none⟩ = some x ∧ Below w0.heap.size w0 w2 := by
  have hs := h.2.size
  exact ⟨(hb.cell (p := ⟨b, i, none⟩) (by show b < _; omega)).trans h.1, h.2.trans (hb.mono hs)⟩
theorem keep2 {w0 w1 w2 : World} {b i : Nat} {x : Value} (hb0 : b < w0.heap.size) (h : w1.cell? ⟨b, i, none⟩ = some x ∧ Below w0.heap.size w0 w1) (hb : Below w1.heap.size w1 w2) : w2.cell? ⟨b, i, none⟩ = some x ∧ Below w0.heap.size w0 w2 := by
  have hs := h.2.size
  exact ⟨(hb.cell (p := ⟨b, i, none⟩) (by show b < _; omega)).trans h.1, h.2.trans (hb.mono hs)⟩
set_option maxRecDepth 100000 in
set_option maxHeartbeats 4000000 in
theorem eigenVector (a : Option Addr) (n cap : Nat) (R : List (List Int)) (w : World) (h : Mat w a n R) :
    Calls Try.prog 44 #[.slice a n cap] w (EPost (M.eigRes R) w) := by
  have HA := Lib.hid h
  have hRn : R.length = n := h.1
  have HRn := Lib.hid hRn
  have HB0 : Hid (Below w.heap.size w (w.alloc (.cells #[.int .i64 0, .int .i64 0] 37))) := b_alloc _ _
  by_cases hc : (M.cycMeanRes R).2 = 0
  · obtain ⟨c, L, hs, hcyc, hnear, hp, hq, hcl, hvx, hov⟩ := M.eig_t hc
    have hE : M.eigRes R = M.eigOk R := by unfold M.eigRes; rw [if_pos hc]
    have hcm := (M.cyc_t hc).2.2.2
    have hrow := M.eig_row hcl hvx
    rw [hRn] at hcyc hnear hp hcl hov hcm hrow
    obtain ⟨hr, n1, n2, hsm⟩ := sq_parts h hs
    have HR := Lib.hid hr
    have HSm := Lib.hid hsm
    have HQ := Lib.hid (sq_of h hs)
    obtain ⟨r, hrr⟩ : ∃ r, r = M.bestR (M.ent R) n := ⟨_, rfl⟩
    have hOk : M.eigOk R = if M.isVec (M.eigL R) then (M.eigL R, r, 0) else ([], (0, 0), 3) := by unfold M.eigOk; rw [hRn, hrr]
    rw [← hrr] at hnear hp hov hcm hrow
    have HNear := Lib.hid hnear
    have HP := Lib.hid hp
    have HOv := Lib.hid hov
    have HCm := Lib.hid hcm
    have HRow := Lib.hid hrow
    have HQq := Lib.hid hq
    obtain ⟨r1, r2⟩ := r
    have HBm : Hid (∀ i j, i < n → j < n → M.Sm 1000001000000 (M.bestF (M.shf (M.ent R) r1 r2) n i j)) := fun i j hi hj => by
      unfold M.bestF
      split
      · exact M.sh_sm HSm.out HNear.out i j hi hj
      · exact .inl rfl
    obtain ⟨l, hl⟩ : ∃ l, l = M.eigL R := ⟨_, rfl⟩
    obtain ⟨bv, hbv⟩ : ∃ b, b = M.isVec l := ⟨_, rfl⟩
    have HV := Lib.hid hbv.symm
    have hll : l.length = n := by rw [hl, M.eigL_len, hRn]
    have HLl := Lib.hid hll
    have HE : Hid (M.eigRes R = if bv then (l, (r1, r2), 0) else ([], (0, 0), 3)) := by show _ = _; rw [hE, hOk, ← hl, ← hbv]
    rw [← hl] at HRow
    have hci : (c : Int) < (n : Int) := by omega
    clear hRn h hc hs hcyc hnear hp hq hvx hov hE hcm hrow hr hsm hrr hOk hl hbv hll
    go_enter Try.func44, Try.ntmps44
    go_wp2_with fail
    refine (cycleMean _ _ _ R _ (HA.out.below HB0.out)).mono ?_
    rintro e w1 ⟨rfl, hb⟩
    rw [HCm.out]
    have HB1 := Lib.hid hb
    clear hb
    obtain ⟨wb, hwb⟩ : ∃ x, x = w1.alloc (rbox r1 r2) := ⟨_, rfl⟩
    have HX : Hid (Boxed w1 wb r1 r2) := by show Boxed _ _ _ _; rw [hwb]; exact boxed _ _ _
    have HBx := Lib.hid (HB1.out.trans (HX.out.below.mono HB1.out.size))
    have HBy := Lib.hid (HB0.out.trans (HBx.out.mono HB0.out.size))
    go_wp2_with fail
    change Calls _ _ _ (w1.alloc (rbox r1 r2)) _
    rw [← hwb]
    clear hwb
    refine (bestArcs _ _ _ R r1 r2 _ (HA.out.below HBy.out) HR.out n1 n2 HSm.out HNear.out HP.out).mono ?_
    rintro e w3 ⟨b3, c3, rfl, ho, hb⟩
    have HSq3 : Hid (Sq w3 b3 n (M.mk n n (M.bestF (M.shf (M.ent R) r1 r2) n))) := ⟨ho.mat, rect_mk _ _ _, fun i j hi hj => by rw [M.ent_mk _ _ _ _ _ hi hj]; exact HBm.out i j hi hj, n1, n2⟩
    have HB3 := Lib.hid hb
    clear ho hb
    go_wp2_with fail
    refine (smallestCycle0 _ _ _ (M.mk n n (M.bestF (M.shf (M.ent R) r1 r2) n)) _ HSq3.out).mono ?_
    rintro e w4 ⟨b4, n4, c4, rfl, ho, hb⟩
    rw [M.over_congr (A := M.bestF (M.shf (M.ent R) r1 r2) n) n2 HBm.out fun i j hi hj => M.ent_mk _ _ _ _ _ hi hj, HOv.out, HQq.out] at ho
    obtain ⟨cb, co, x0, rfl, hcb, hx0, cx0⟩ := ho.ints'.at 0 (by rw [ho.len]; simp)
    have hn4 : 0 < n4 := by rw [ho.len]; simp
    rw [Nat.add_zero] at cx0
    have hx1 : x0 = (c : Int) := hx0
    clear hx0
    subst hx1
    have HB4 := Lib.hid (HB3.out.trans (hb.mono HB3.out.size))
    clear ho hb
    obtain ⟨p0, p1⟩ := HX.out.cells HB4.out
    obtain ⟨m6, hm6⟩ : ∃ m6, m6 = n := ⟨_, rfl⟩
    subst hm6
    have hcb6 : cb < w4.heap.size := cell_lt cx0
    go_wp2
    go_region_with (go_at_call 85; refine (starColumns _ _ _ R r1 r2 _ (HA.out.below (below_drewN (HBy.out.trans (HB4.out.mono HBy.out.size)) _)) HR.out n1 n2 HSm.out HNear.out HP.out).mono ?_; rintro e w7 ⟨b7, c7, rfl, ho, hb⟩; obtain ⟨g7, ra7, rc7, rfl, hcr7, hro7⟩ := ho.row c hcl; rw [HRow.out, HLl.out] at hcr7 hro7; have cx7 := (hb.cell (p := ⟨cb, co, none⟩) hcb6).trans cx0; have HO7 := Lib.hid hro7; have HB7 := Lib.hid ((below_drewN (Below.refl w4.heap.size w4) _).trans hb); clear hro7 ho hb)
    all_goals
      have HB8 := Lib.hid (HBx.out.trans ((HB4.out.trans (HB7.out.mono HB4.out.size)).mono HBx.out.size))
      have HX7 := HX.out.cells (HB4.out.trans (HB7.out.mono HB4.out.size))
      obtain ⟨p0, p1⟩ := HX7
      have hz8 := HB8.out.size
      simp at hz8
      obtain ⟨hcc, hff⟩ := bcell HB8.out
      have z1 : w.heap.size < w7.heap.size := by omega
      have hlt6 : w.heap.size < w4.heap.size := by have h1 := HB4.out.size; have h2 := HBx.out.size; simp at h2; omega
      have hlo : w.heap.size ≤ w4.heap.size := by omega
      cases bv with
      | false =>
        go_wp2_with fail
        refine (isVector_b _ _ _ l _ false HV.out HO7.out.ints').mono ?_
        rintro e w' ⟨rfl, rfl⟩
        go_wp2
        exact bodyPost_ret (v := .tuple #[.slice none 0 0, .agg #[.int .i64 0, .int .i64 0], .int .i64 3]) (by simp [results, Try.results44, go_sem, z1, hcc]) rfl (EPost.nil HE.out (bel1s HB8.out))
      | true =>
        go_wp2_with fail
        refine (isVector_b _ _ _ l _ true HV.out HO7.out.ints').mono ?_
        rintro e w' ⟨rfl, rfl⟩
        go_wp2
        go_region
        all_goals (try go_wp2)
        all_goals
          exact bodyPost_ret (v := .tuple #[.slice ra7 m6 rc7, .agg #[.int .i64 r1, .int .i64 r2], .int .i64 0]) (by simp [results, Try.results44, go_sem, z1, hcc]) rfl (by
            rw [HE.out]
            refine ⟨ra7, m6, rc7, rfl, (HO7.out.keep fun k k1 _ => ?_).mono hlo, by first | exact bel1s HB8.out | exact bel1s (below_drewN HB8.out 1)⟩
            have k2 : w4.heap.size ≤ k := k1
            exact (Below.heap_setCell _ _ _ k (by show k ≠ w.heap.size; omega)).trans (Below.heap_setCell _ _ _ k (by show k ≠ w.heap.size; omega)))
  · have HE : Hid (M.eigRes R = ([], (0, 0), (M.cycMeanRes R).2)) := by show _ = _; unfold M.eigRes; rw [if_neg hc]
    obtain ⟨r, hr⟩ : ∃ r, r = M.cycMeanRes R := ⟨_, rfl⟩
    rw [← hr] at hc HE
    have HR := Lib.hid hr.symm
    obtain ⟨⟨r1, r2⟩, r3⟩ := r
    have hr3 : (r3 != 0) = true := by simpa using hc
    clear h hc hr
    go_enter Try.func44, Try.ntmps44
    go_wp2_with fail
    refine (cycleMean _ _ _ R _ (HA.out.below HB0.out)).mono ?_
    rintro e w1 ⟨rfl, hb⟩
    rw [HR.out]
    have hz := hb.size
    simp at hz
    obtain ⟨hcc, hff⟩ := bcell hb
    have z1 : w.heap.size < w1.heap.size := by omega
    go_wp2
    exact bodyPost_ret (v := .tuple #[.slice none 0 0, .agg #[.int .i64 0, .int .i64 0], .int .i64 r3]) (by simp [results, Try.results44, go_sem, z1, hcc]) rfl (EPost.nil HE.out ((bel1s hb).alloc (bel1s hb).size _))
end V
end Go.Proofs.Ytcofjjipjcekjaa

namespace Go.Proofs.Ytcofjjipjcekjaa
namespace M
theorem imgB_s {R : List (List Int)} {a b : Int} {x : List Int} (h : sqB R = false) : imgB R a b x = false := by unfold imgB; rw [h]; rfl
theorem imgB_r {R : List (List Int)} {a b : Int} {x : List Int} (h : isRat a b = false) : imgB R a b x = false := by unfold imgB; rw [h]; simp
theorem imgB_v {R : List (List Int)} {a b : Int} {x : List Int} (h : isVec x = false) : imgB R a b x = false := by unfold imgB; rw [h]; simp
theorem imgB_l {R : List (List Int)} {a b : Int} {x : List Int} (h : ¬ x.length = R.length) : imgB R a b x = false := by unfold imgB; rw [decide_eq_false h]; simp
def imgR (R : List (List Int)) (a b : Int) (x : List Int) : List Int := if imgB R a b x then imgL R a b x else []
theorem imgR_f {R : List (List Int)} {a b : Int} {x : List Int} (h : imgB R a b x = false) : imgR R a b x = [] := by unfold imgR; rw [h]; rfl
theorem imgR_t {R : List (List Int)} {a b : Int} {x : List Int} (h : imgB R a b x = true) : imgR R a b x = imgL R a b x := by unfold imgR; rw [h]; rfl
end M
namespace V
open Go.RowKit
theorem M.top_any {x : List Int} (hv : M.isVec x = true) : (x.any fun v => decide (v ≠ -1000000000000000)) = decide (M.topN (fun i => x.getD i 0) (x.length - 1) ≠ -1000000000000000) := by
  obtain ⟨v1, v2, v3⟩ := M.isVec_t hv
  rw [Bool.eq_iff_iff, List.any_eq_true, decide_eq_true_eq]
  constructor
  · rintro ⟨v, hm, hne⟩
    rw [decide_eq_true_eq] at hne
    obtain ⟨k, hk, rfl⟩ := List.mem_iff_getElem.1 hm
    have h1 := M.topN_ge (fun i => x.getD i 0) (x.length - 1) k (by omega)
    have h2 := M.isVal_t (v3 k hk)
    have e : x.getD k 0 = x[k] := by simp [hk]
    have h1 : x.getD k 0 ≤ _ := h1
    rw [e] at h1 h2
    omega
  · intro h
    obtain ⟨k, hk, e⟩ := M.topN_at (fun i => x.getD i 0) (x.length - 1)
    have hk' : k < x.length := by omega
    have e : _ = x.getD k 0 := e
    refine ⟨x[k], List.getElem_mem hk', ?_⟩
    rw [decide_eq_true_eq]
    rw [e] at h
    simpa [hk'] using h
set_option maxRecDepth 100000 in
set_option maxHeartbeats 400000 in
theorem isAtMost (a : Option Addr) (n cap : Nat) (y : List Int) (a' : Option Addr) (cap' : Nat) (x : List Int) (w : World) (h : Ints .i64 w a n y) (h' : Ints .i64 w a' n x) (hn : n ≤ 1000) :
    Calls Try.prog 79 #[.slice a n cap, .slice a' n cap'] w fun e w' => e = .returned (.bool (M.atMostB y x)) ∧ w = w' := by
  have HY := Lib.hid h
  have HXx := Lib.hid h'
  have HL := Lib.hid h.1
  clear h h'
  go_enter Try.func79, Try.ntmps79
  go_wp2
  go_loop [5, 6, 9] (fun _ _ i => ∃ k : Nat, k ≤ n ∧ i = .int .i64 k ∧ Hid (∀ i, i < k → y.getD i 0 ≤ x.getD i 0)) (fun _ _ i => n - (intOf i).toNat)
  case atStart => exact ⟨0, Nat.zero_le _, rfl, fun i hi => absurd hi (Nat.not_lt_zero i)⟩
  case round =>
    obtain ⟨k, hk, rfl, HK⟩ := hrel
    by_cases hlt : k < n
    · have hki : (k : Int) < (n : Int) := by omega
      obtain ⟨d1, d2, u, rfl, -, hu, cu⟩ := HY.out.at k hlt
      obtain ⟨d3, d4, v, rfl, -, hv, cv⟩ := HXx.out.at k hlt
      have HU := Lib.hid hu
      have HV := Lib.hid hv
      clear hu hv
      by_cases hgt : v < u
      · have HF : Hid (M.atMostB y x = false) := by
          show _ = _
          unfold M.atMostB
          cases e : (List.range y.length).all fun i => decide (y.getD i 0 ≤ x.getD i 0) with
          | false => rfl
          | true =>
            have := List.all_eq_true.1 e k (List.mem_range.2 (by rw [HL.out]; exact hlt))
            rw [decide_eq_true_eq, ← HU.out, ← HV.out] at this
            omega
        go_wp2
        go_ret
        exact ⟨retB HF.out.symm, rfl⟩
      · have HK2 : Hid (∀ i, i < k + 1 → y.getD i 0 ≤ x.getD i 0) := fun i hi => by
          by_cases e : i = k
          · subst e; rw [← HU.out, ← HV.out]; omega
          · exact HK.out i (by omega)
        have hgt2 : u ≤ v := by omega
        go_wp2
        go_round
        case rel => exact ⟨k + 1, by omega, by go_num, HK2⟩
        case measure => simp [intOf]; omega
    · obtain rfl : k = n := by omega
      have HF : Hid (M.atMostB y x = true) := by
        show _ = _
        unfold M.atMostB
        rw [List.all_eq_true]
        intro i hi
        rw [decide_eq_true_eq]
        exact HK.out i (by have := List.mem_range.1 hi; rw [HL.out] at this; exact this)
      go_wp2
      go_ret
      exact ⟨retB HF.out.symm, rfl⟩
set_option maxRecDepth 100000 in
set_option maxHeartbeats 2000000 in
theorem shiftedImage (a : Option Addr) (n cap : Nat) (R : List (List Int)) (num den : Int) (a' : Option Addr) (N cap' : Nat) (l : List Int) (w0 : World) (h : Mat w0 a n R) (h' : Ints .i64 w0 a' N l) :
    Calls Try.prog 77 #[.slice a n cap, .agg #[.int .i64 num, .int .i64 den], .slice a' N cap'] w0 fun e w' => ∃ b m c, e = .returned (.tuple #[.slice b m c, .bool (M.imgB R num den l)]) ∧ Own w' w0.heap.size (.slice b m c) (M.imgR R num den l) ∧ Below w0.heap.size w0 w' := by
  obtain ⟨w, hwd⟩ : ∃ w, w = w0.alloc (rbox num den) := ⟨_, rfl⟩
  have HX : Hid (Boxed w0 w num den) := by show Boxed _ _ _ _; rw [hwd]; exact boxed _ _ _
  have HA : Hid (Mat w a n R) := h.below HX.out.below
  have HI : Hid (Ints .i64 w a' N l) := h'.below HX.out.below
  have HL := Lib.hid h'.1
  have HZ := Lib.hid HX.out.size
  obtain ⟨c0, c1⟩ := HX.out.cells (Below.refl _ _)
  obtain ⟨bs, hs⟩ : ∃ b, b = M.sqB R := ⟨_, rfl⟩
  have HS := Lib.hid hs.symm
  cases bs with
  | false =>
    have HE : Hid (M.imgB R num den l = false) := M.imgB_s hs.symm
    clear h h' hs
    go_enter Try.func77, Try.ntmps77
    go_wp2_with fail
    simp only [← hwd] at *
    clear hwd
    refine (isSquare_b _ _ _ R _ false HS.out HA.out).mono ?_
    rintro e w' ⟨rfl, rfl⟩
    go_wp2
    go_ret2
    rw [HE.out]
    exact ⟨none, 0, 0, rfl, by rw [M.imgR_f HE.out]; exact own_nil _ _, HX.out.below⟩
  | true =>
    have hss := hs.symm
    obtain ⟨rR, n1, n2, hsm⟩ := sq_parts HA.out hss
    obtain ⟨br, hr⟩ : ∃ b, b = M.isRat num den := ⟨_, rfl⟩
    have HR := Lib.hid hr.symm
    have HRe := Lib.hid rR
    have HSm := Lib.hid hsm
    have hRl := HA.out.1
    have HRl := Lib.hid hRl
    cases br with
    | false =>
      have HE : Hid (M.imgB R num den l = false) := M.imgB_r hr.symm
      clear h h' hs hss rR hsm hr hRl
      go_enter Try.func77, Try.ntmps77
      go_wp2_with fail
      simp only [← hwd] at *
      clear hwd
      refine (isSquare_b _ _ _ R _ true HS.out HA.out).mono ?_
      rintro e w' ⟨rfl, rfl⟩
      go_wp2_with fail
      refine (isRatio_b _ _ false HR.out _).mono ?_
      rintro e w1 ⟨rfl, hb1⟩
      have HB1 := Lib.hid hb1
      have HI1 : Hid (Ints .i64 w1 a' N l) := HI.out.below hb1
      obtain ⟨p0, p1⟩ := HX.out.cells hb1
      clear hb1
      go_wp2
      go_ret2
      rw [HE.out]
      exact ⟨none, 0, 0, rfl, by rw [M.imgR_f HE.out]; exact own_nil _ _, HX.out.trans HB1.out⟩
    | true =>
      obtain ⟨bv, hv⟩ : ∃ b, b = M.isVec l := ⟨_, rfl⟩
      have HV := Lib.hid hv.symm
      cases bv with
      | false =>
        have HE : Hid (M.imgB R num den l = false) := M.imgB_v hv.symm
        clear h h' hs hss rR hsm hr hv hRl
        go_enter Try.func77, Try.ntmps77
        go_wp2_with fail
        simp only [← hwd] at *
        clear hwd
        refine (isSquare_b _ _ _ R _ true HS.out HA.out).mono ?_
        rintro e w' ⟨rfl, rfl⟩
        go_wp2_with fail
        refine (isRatio_b _ _ true HR.out _).mono ?_
        rintro e w1 ⟨rfl, hb1⟩
        have HB1 := Lib.hid hb1
        have HI1 : Hid (Ints .i64 w1 a' N l) := HI.out.below hb1
        obtain ⟨p0, p1⟩ := HX.out.cells hb1
        clear hb1
        go_wp2_with fail
        refine (isVector_b _ _ _ l _ false HV.out HI1.out).mono ?_
        rintro e w' ⟨rfl, rfl⟩
        go_wp2
        go_ret2
        rw [HE.out]
        exact ⟨none, 0, 0, rfl, by rw [M.imgR_f HE.out]; exact own_nil _ _, HX.out.trans HB1.out⟩
      | true =>
        by_cases hN : N = n
        · subst hN
          obtain ⟨v1, v2, v3⟩ := M.isVec_t hv.symm
          obtain ⟨t, ht⟩ : ∃ t, t = M.topN (fun i => l.getD i 0) (N - 1) := ⟨_, rfl⟩
          have HT := Lib.hid ht
          have hany : (l.any fun v => decide (v ≠ -1000000000000000)) = decide (t ≠ -1000000000000000) := by rw [M.top_any hv.symm, HL.out, ht]
          by_cases ht0 : t = -1000000000000000
          · have HE : Hid (M.imgB R num den l = false) := by show _ = _; rw [M.imgB_cmp, hany, ht0]; simp
            clear h h' hs hss rR hsm hr hv hRl ht hany v1 v2 v3
            subst ht0
            go_enter Try.func77, Try.ntmps77
            go_wp2_with fail
            simp only [← hwd] at *
            clear hwd
            refine (isSquare_b _ _ _ R _ true HS.out HA.out).mono ?_
            rintro e w' ⟨rfl, rfl⟩
            go_wp2_with fail
            refine (isRatio_b _ _ true HR.out _).mono ?_
            rintro e w1 ⟨rfl, hb1⟩
            have HB1 := Lib.hid hb1
            have HI1 : Hid (Ints .i64 w1 a' N l) := HI.out.below hb1
            obtain ⟨p0, p1⟩ := HX.out.cells hb1
            clear hb1
            go_wp2_with fail
            refine (isVector_b _ _ _ l _ true HV.out HI1.out).mono ?_
            rintro e w' ⟨rfl, rfl⟩
            go_wp2_with fail
            refine (slicesMax _ _ _ _ _ HI1.out n1).mono ?_
            rintro e w' ⟨rfl, rfl⟩
            rw [← HT.out]
            go_wp2
            go_ret2
            rw [HE.out]
            exact ⟨none, 0, 0, rfl, by rw [M.imgR_f HE.out]; exact own_nil _ _, HX.out.trans HB1.out⟩
          · have hE : M.imgB R num den l = true := by
              rw [M.imgB_cmp, hany, decide_eq_true ht0, Bool.and_true]
              unfold M.cmpOk
              rw [← hs, ← hr, ← hv, HL.out, hRl]
              simp
            have HE := Lib.hid hE
            have htb : (t == -1000000000000000) = false := by simpa using ht0
            have HSh : Hid (∀ i j, i < N → j < N → M.Sm 1000001000000 (M.shf (M.ent R) num den i j)) := fun i j hi hj => M.shf_sm (M.near_rat hr.symm) (hsm i j hi hj)
            have HB : Hid (∀ k, k < N → M.Big (l.getD k 0)) := fun k hk => M.big_val (v3 k (by rw [HL.out]; exact hk))
            have HM : Hid (∀ i k, i < N → k < N → M.Big (M.ent (M.mk N N (M.shf (M.ent R) num den)) i k)) := fun i k hi hk => by
              rw [M.ent_mk _ _ _ _ _ hi hk]; exact M.big_sm (HSh.out i k hi hk) (by omega)
            have HY : Hid (M.applyM (M.mk N N (M.shf (M.ent R) num den)) l = M.imgL R num den l) := by show _ = _; unfold M.imgL M.shM; rw [hRl]
            clear h h' hs hss rR hsm hr hv hRl ht hany v1 v2 v3 hE ht0
            go_enter Try.func77, Try.ntmps77
            go_wp2_with fail
            simp only [← hwd] at *
            clear hwd
            refine (isSquare_b _ _ _ R _ true HS.out HA.out).mono ?_
            rintro e w' ⟨rfl, rfl⟩
            go_wp2_with fail
            refine (isRatio_b _ _ true HR.out _).mono ?_
            rintro e w1 ⟨rfl, hb1⟩
            have HB1 := Lib.hid hb1
            have HI1 : Hid (Ints .i64 w1 a' N l) := HI.out.below hb1
            obtain ⟨p0, p1⟩ := HX.out.cells hb1
            clear hb1
            go_wp2_with fail
            refine (isVector_b _ _ _ l _ true HV.out HI1.out).mono ?_
            rintro e w' ⟨rfl, rfl⟩
            go_wp2_with fail
            refine (slicesMax _ _ _ _ _ HI1.out n1).mono ?_
            rintro e w' ⟨rfl, rfl⟩
            rw [← HT.out]
            go_wp2_with fail
            refine (shiftedBy _ _ _ R _ _ _ (HA.out.below HB1.out) HRe.out n1 n2 HSm.out (M.near_rat HR.out)).mono ?_
            rintro e w2 ⟨a2, cap2, rfl, hO, hb⟩
            have HO := Lib.hid hO
            have HB2 := Lib.hid (HB1.out.trans (hb.mono HB1.out.size))
            have HI2 : Hid (Ints .i64 w2 a' N l) := HI1.out.below hb
            clear hO hb
            go_wp2_with fail
            refine (timesColumn _ _ _ _ _ _ _ l _ HO.out.mat HI2.out (rect_mk _ _ _) HM.out HB.out n1 n2 n1 n2).mono ?_
            rintro e w3 ⟨b3, c3, rfl, hx, hb⟩
            rw [HY.out] at hx
            have HB3 := Lib.hid (HX.out.trans (HB2.out.trans (hb.mono HB2.out.size)))
            have HXx := Lib.hid (hx.mono (Nat.le_trans HX.out.below.size HB2.out.size))
            clear hx hb
            go_wp2
            go_ret2
            rw [HE.out]
            exact ⟨b3, N, c3, rfl, by rw [M.imgR_t HE.out]; exact HXx.out, HB3.out⟩
        · have HE : Hid (M.imgB R num den l = false) := M.imgB_l (fun k => hN (by rw [← HL.out, k, hRl]))
          have hne : ((N : Int) != (n : Int)) = true := by simp; omega
          have hne2 : ((N : Int) == (n : Int)) = false := by simp; omega
          have hne3 : (N == n) = false := by simpa using hN
          clear h h' hs hss rR hsm hr hv hRl
          go_enter Try.func77, Try.ntmps77
          go_wp2_with fail
          simp only [← hwd] at *
          clear hwd
          refine (isSquare_b _ _ _ R _ true HS.out HA.out).mono ?_
          rintro e w' ⟨rfl, rfl⟩
          go_wp2_with fail
          refine (isRatio_b _ _ true HR.out _).mono ?_
          rintro e w1 ⟨rfl, hb1⟩
          have HB1 := Lib.hid hb1
          have HI1 : Hid (Ints .i64 w1 a' N l) := HI.out.below hb1
          obtain ⟨p0, p1⟩ := HX.out.cells hb1
          clear hb1
          go_wp2_with fail
          refine (isVector_b _ _ _ l _ true HV.out HI1.out).mono ?_
          rintro e w' ⟨rfl, rfl⟩
          go_wp2
          go_ret2
          rw [HE.out]
          exact ⟨none, 0, 0, rfl, by rw [M.imgR_f HE.out]; exact own_nil _ _, HX.out.trans HB1.out⟩
end V
end Go.Proofs.Ytcofjjipjcekjaa

/- Texts laid together: Clo5, Fix1, Pot1. -/
import Derived.Test.YtmcihaihbnnblaaGreatQz13
import Derived.Test.YtmcihaihbnnblaaGreatQz6
import Derived.Test.YtmcihaihbnnblaaGreatQz10
import Derived.Test.YtmcihaihbnnblaaGreatQz12
import Derived.Deep.RegionWith
import Derived.Deep.RegionHeld3
set_option linter.unusedSimpArgs false
set_option linter.unusedVariables false
set_option linter.unusedSectionVars false
namespace Go.Proofs.YtmcihaihbnnblaaGreat.V
open Go.RowKit

set_option maxRecDepth 100000 in
set_option maxHeartbeats 400000 in
theorem sResult (a : Option Addr) (n cap : Nat) (R : List (List Int)) (b : Bool) (hb : M.isMat R = b) (w : World) (h : Mat w a n R) :
    Calls Tryz.prog 132 #[.slice a n cap] w fun e w' => e = .returned (if b then .tuple #[.slice a n cap, .int .i64 0] else .tuple #[.slice none 0 0, .int .i64 3]) ∧ ∃ q, w' = w.drewN q := by
  have HA := Lib.hid h
  have HB := Lib.hid hb
  clear h hb
  cases b with
  | true =>
    go_enter Tryz.func132, Tryz.ntmps132
    go_wp2_with (go_at_call 147; refine (sIsMatrix_b _ _ _ R _ true HB.out HA.out).mono ?_; rintro e w' ⟨rfl, q, rfl⟩)
    go_ret2
    exact ⟨rfl, _, rfl⟩
  | false =>
    go_enter Tryz.func132, Tryz.ntmps132
    go_wp2_with (go_at_call 147; refine (sIsMatrix_b _ _ _ R _ false HB.out HA.out).mono ?_; rintro e w' ⟨rfl, q, rfl⟩)
    go_ret2
    exact ⟨rfl, _, rfl⟩


end Go.Proofs.YtmcihaihbnnblaaGreat.V

namespace Go.Proofs.YtmcihaihbnnblaaGreat.V
open Go.RowKit

/-- What the least fixed point of a matrix and a vector that fit is. -/
def M.lfpL (R : List (List Int)) (n : Nat) (l : List Int) : List Int × Int := if M.noPos (M.ent R) n then (if M.isVec (M.applyM (M.starM R n) l) then (M.applyM (M.starM R n) l, 0) else ([], 3)) else ([], 5)
set_option maxRecDepth 100000 in
set_option maxHeartbeats 1000000 in
theorem leastFixedPoint (a : Option Addr) (n cap : Nat) (R : List (List Int)) (a' : Option Addr) (cap' : Nat) (l : List Int) (w : World) (h : Sq w a n R) (h' : Ints .i64 w a' n l) (hlb : ∀ k, k < n → M.Big (l.getD k 0)) :
    Calls Tryz.prog 143 #[.slice a n cap, .slice a' n cap'] w (VRes (M.lfpL R n l) w) := by
  have HQ := Lib.hid h
  have HI := Lib.hid h'
  have HSm := Lib.hid h.2.2.1
  obtain ⟨-, -, -, n1, n2⟩ := h
  have HLB := Lib.hid hlb
  clear hlb h'
  obtain ⟨r, hr⟩ : ∃ r, r = M.starL R n := ⟨_, rfl⟩
  have HC : Calls Tryz.prog 151 #[.slice a n cap] w (CPost r w) := by rw [hr]; exact starOf _ _ _ _ _ HQ.out
  by_cases hp : M.noPos (M.ent R) n = true
  · have hr2 : r = (M.starM R n, true) := by rw [hr]; unfold M.starL; rw [hp]; rfl
    have HSB : Hid (∀ i j, i < n → j < n → M.Big (M.ent (M.starM R n) i j)) := fun i j hi hj => M.star_big n2 HSm.out hp hi hj
    obtain ⟨b, hb⟩ : ∃ b, b = M.isVec (M.applyM (M.starM R n) l) := ⟨_, rfl⟩
    have HM := Lib.hid hb.symm
    have HE : Hid (M.lfpL R n l = if b then (M.applyM (M.starM R n) l, 0) else ([], 3)) := by
      show _ = _; rw [hb]; unfold M.lfpL; rw [hp]; rfl
    clear hr hp hb
    subst hr2
    cases b with
    | true =>
      go_enter Tryz.func143, Tryz.ntmps143
      go_wp2_with fail
      refine HC.mono ?_
      rintro e w1 ⟨a2, m, cap2, rfl, hO, hb⟩
      obtain rfl : m = n := by have := hO.len; simpa [M.starM] using this
      have HO := Lib.hid hO
      have HB := Lib.hid hb
      clear hO hb
      go_wp2_with fail
      refine (timesColumn _ _ _ _ _ _ _ l _ HO.out.mat (HI.out.below HB.out) (rect_mk _ _ _) HSB.out HLB.out n1 n2 n1 n2).mono ?_
      rintro e w2 ⟨b3, c3, rfl, hx, hb⟩
      have HX := Lib.hid (hx.mono HB.out.size)
      have HB2 := Lib.hid (bnext HB.out hb)
      clear hx hb
      go_wp2_with fail
      refine (isVector_b _ _ _ _ _ true HM.out HX.out.ints').mono ?_
      rintro e w' ⟨rfl, rfl⟩
      go_wp2
      go_ret2
      rw [HE.out]
      exact ⟨_, _, _, rfl, HX.out, HB2.out⟩
    | false =>
      go_enter Tryz.func143, Tryz.ntmps143
      go_wp2_with fail
      refine HC.mono ?_
      rintro e w1 ⟨a2, m, cap2, rfl, hO, hb⟩
      obtain rfl : m = n := by have := hO.len; simpa [M.starM] using this
      have HO := Lib.hid hO
      have HB := Lib.hid hb
      clear hO hb
      go_wp2_with fail
      refine (timesColumn _ _ _ _ _ _ _ l _ HO.out.mat (HI.out.below HB.out) (rect_mk _ _ _) HSB.out HLB.out n1 n2 n1 n2).mono ?_
      rintro e w2 ⟨b3, c3, rfl, hx, hb⟩
      have HX := Lib.hid (hx.mono HB.out.size)
      have HB2 := Lib.hid (bnext HB.out hb)
      clear hx hb
      go_wp2_with fail
      refine (isVector_b _ _ _ _ _ false HM.out HX.out.ints').mono ?_
      rintro e w' ⟨rfl, rfl⟩
      go_wp2
      go_ret2
      exact VRes.nil HE.out HB2.out
  · simp only [Bool.not_eq_true] at hp
    have hr2 : r = ([], false) := by rw [hr]; unfold M.starL; rw [hp]; rfl
    have HE : Hid (M.lfpL R n l = ([], 5)) := by
      show _ = _; unfold M.lfpL; rw [hp]; rfl
    clear hr hp
    subst hr2
    go_enter Tryz.func143, Tryz.ntmps143
    go_wp2_with (go_at_call 151; refine HC.mono ?_; rintro e w1 ⟨a2, m, cap2, rfl, hO, hb⟩; have HB := Lib.hid hb; clear hO hb)
    go_ret2
    exact VRes.nil HE.out HB.out

end Go.Proofs.YtmcihaihbnnblaaGreat.V

namespace Go.Proofs.YtmcihaihbnnblaaGreat
namespace M
theorem noPos_mk (n : Nat) (f : Nat → Nat → Int) : noPos (ent (mk n n f)) n = noPos f n := noPos_congr fun _ _ hi hj => ent_mk _ _ _ _ _ hi hj
theorem starM_mk (n : Nat) (f : Nat → Nat → Int) : starM (mk n n f) n = mk n n (starF f n) := mk_congr fun _ hi _ hj => starF_congr (fun _ _ hi hj => ent_mk _ _ _ _ _ hi hj) hi hj
def finV (x : Int) : Bool := isFin x
theorem zeros_len (n : Nat) : (zerosL n).length = n := by simp [zerosL]
theorem zeros_made (n : Nat) : ((List.range n).map fun _ => (0 : Int)) = zerosL n := by
  unfold zerosL
  apply List.ext_getElem
  · simp
  · intro i h1 h2; simp
end M
namespace V
open Go.RowKit
theorem sq_shift {w : World} {a : Option Addr} {n : Nat} {f : Nat → Nat → Int} (h : Mat w a n (M.mk n n f)) (hf : ∀ i j, i < n → j < n → M.Sm 1000001000000 (f i j)) (n1 : 1 ≤ n) (n2 : n ≤ 10) : Sq w a n (M.mk n n f) :=
  ⟨h, rect_mk _ _ _, fun i j hi hj => by rw [M.ent_mk _ _ _ _ _ hi hj]; exact hf i j hi hj, n1, n2⟩
set_option maxRecDepth 100000 in
set_option maxHeartbeats 400000 in
theorem sAllF (a : Option Addr) (n cap : Nat) (l : List Int) (w : World) (h : Ints .i64 w a n l) :
    Calls Tryz.prog 146 #[.slice a n cap, .bool true] w fun e w' => e = .returned (.bool (l.all M.isFin)) ∧ w = w' := by
  obtain ⟨hl, hm, hr⟩ := h
  unfold maxLen at hm
  have HL := Lib.hid hl
  clear hl
  go_enter Tryz.func146, Tryz.ntmps146
  go_wp2
  go_loop [5] (fun i => ∃ k : Nat, k ≤ n ∧ i = .int .i64 k ∧ Hid ((l.take k).all M.isFin = true)) (fun i => n - (intOf i).toNat)
  case atStart => exact ⟨0, Nat.zero_le _, rfl, rfl⟩
  case round =>
    obtain ⟨k, hk, rfl, HA⟩ := hrel
    by_cases hlt : k < n
    · rcases hr with h0 | ⟨b, off, rfl, hbl, hc⟩
      · omega
      · have hck := hc k hlt
        have hsn := M.take_snoc l k (by have := HL.out; omega)
        obtain ⟨x, hx⟩ : ∃ x, x = l.getD k 0 := ⟨_, rfl⟩
        rw [← hx] at hck hsn
        have HX := Lib.hid hx
        have HS := Lib.hid hsn
        clear hc hx hsn
        by_cases hb : x = -1000000000000000
        · have HF : Hid (l.all M.isFin = false) := M.all_false _ l k (by have := HL.out; omega) (by rw [← HX.out, hb]; rfl)
          have hv : M.isVal x = true := by rw [hb]; exact M.bot_val
          subst hb
          go_wp2_with (first | (go_at_call 198; refine (sIsValue _ _).mono ?_; rintro e w' ⟨rfl, rfl⟩))
          go_ret
          exact ⟨retB (by rw [HF.out]), rfl⟩
        · have hb2 : (x == -1000000000000000) = false := by simpa using hb
          have hvf : M.isVal x = M.isFin x := by unfold M.isVal; rw [decide_eq_false hb, Bool.false_or]
          by_cases hv : M.isVal x = true
          · have HA2 : Hid ((l.take (k + 1)).all M.isFin = true) := by show _ = _; rw [HS.out, M.all_snoc, HA.out, ← hvf, hv]; rfl
            clear hvf
            go_wp2_with (first | (go_at_call 198; refine (sIsValue _ _).mono ?_; rintro e w' ⟨rfl, rfl⟩))
            go_round
            case rel => exact ⟨k + 1, by omega, by go_num, HA2⟩
            case measure => simp [intOf]; omega
          · simp only [Bool.not_eq_true] at hv
            have HF : Hid (l.all M.isFin = false) := M.all_false _ l k (by have := HL.out; omega) (by rw [← HX.out, ← hvf, hv])
            clear hvf
            go_wp2_with (first | (go_at_call 198; refine (sIsValue _ _).mono ?_; rintro e w' ⟨rfl, rfl⟩))
            go_ret
            exact ⟨retB (by rw [HF.out]), rfl⟩
    · have hkn : k = n := by omega
      subst hkn
      have HT : Hid (l.take k = l) := M.take_all l k (by have := HL.out; omega)
      clear hr
      go_wp2
      go_ret
      exact ⟨retB (by rw [← HT.out, HA.out]), rfl⟩
theorem sAllF_b (a : Option Addr) (n cap : Nat) (l : List Int) (b : Bool) (hb : l.all M.isFin = b) (w : World) (h : Ints .i64 w a n l) :
    Calls Tryz.prog 146 #[.slice a n cap, .bool true] w fun e w' => e = .returned (.bool b) ∧ w = w' := by subst hb; exact sAllF a n cap l w h
/-- The plain answer, by the shifted matrix. -/
theorem pot_lfp {R : List (List Int)} {n : Nat} {num den : Int} (hn : R.length = n) (hs : M.sqB R = true) (hr : M.isRat num den = true) : M.potRes R num den = M.lfpL (M.mk n n (M.shf (M.ent R) num den)) n (M.zerosL n) := by
  subst hn
  unfold M.potRes M.lfpL
  rw [hs, hr, M.noPos_mk]
  rfl
set_option maxRecDepth 100000 in
set_option maxHeartbeats 2000000 in
theorem potentialOf (a : Option Addr) (n cap : Nat) (R : List (List Int)) (num den : Int) (w0 : World) (h : Mat w0 a n R) :
    Calls Tryz.prog 67 #[.slice a n cap, .agg #[.int .i64 num, .int .i64 den]] w0 (VRes (M.potRes R num den) w0) := by
  obtain ⟨w, hwd⟩ : ∃ w, w = w0.alloc (rbox num den) := ⟨_, rfl⟩
  have HX : Hid (Boxed w0 w num den) := by show Boxed _ _ _ _; rw [hwd]; exact boxed _ _ _
  have HA : Hid (Mat w a n R) := h.below HX.out.below
  have HZ := Lib.hid HX.out.size
  obtain ⟨c0, c1⟩ := HX.out.cells (Below.refl _ _)
  by_cases hs : M.sqB R = true
  · have HS := Lib.hid hs
    by_cases hr : M.isRat num den = true
    · have HR := Lib.hid hr
      obtain ⟨r1, n1, n2, r4⟩ := sq_parts HA.out hs
      have HQ := Lib.hid r1
      have HSm := Lib.hid r4
      have HE : Hid (M.potRes R num den = M.lfpL (M.mk n n (M.shf (M.ent R) num den)) n (M.zerosL n)) := pot_lfp HA.out.1 hs hr
      have HSh : Hid (∀ i j, i < n → j < n → M.Sm 1000001000000 (M.shf (M.ent R) num den i j)) := fun i j hi hj => M.shf_sm (M.near_rat hr) (r4 i j hi hj)
      have HLB : Hid (∀ k, k < n → M.Big ((M.zerosL n).getD k 0)) := fun k _ => by rw [M.zeros_at]; exact .inr (by omega)
      obtain ⟨P, hP⟩ : ∃ P, P = M.mk n n (M.shf (M.ent R) num den) := ⟨_, rfl⟩
      have HP := Lib.hid hP
      obtain ⟨z, hzd⟩ : ∃ z, z = M.zerosL n := ⟨_, rfl⟩
      have HZd : Hid (((List.range n).map fun _ => (0 : Int)) = z) := by show _ = _; rw [hzd]; exact M.zeros_made n
      rw [← hP, ← hzd] at HE
      rw [← hzd] at HLB
      have hmk := run_make_row' (P := Tryz.prog) 34 2 (.int .i64 0) 8 Tryz.underlying34 info64 rfl .i64 .i64 n (by omega) (by omega)
      clear h hs hr r1 r4 hP hzd
      go_enter Tryz.func67, Tryz.ntmps67
      go_wp2_with fail
      simp only [← hwd] at *
      clear hwd
      refine (isSquare_b _ _ _ R _ true HS.out HA.out).mono ?_
      rintro e w' ⟨rfl, rfl⟩
      go_wp2_with fail
      refine (isRatio_b _ _ true HR.out _).mono ?_
      rintro e w1 ⟨rfl, hb1⟩
      have HB1 := Lib.hid hb1
      obtain ⟨p0, p1⟩ := HX.out.cells hb1
      have hlt : w0.heap.size < w1.heap.size := by have := HB1.out.size; have := HZ.out; omega
      clear hb1
      go_wp2
      go_region_held3 (fun w' => w'.cell? ⟨w0.heap.size, 0, none⟩ = some (.int .i64 num) ∧ w'.cell? ⟨w0.heap.size, 1, none⟩ = some (.int .i64 den) ∧ Below w1.heap.size w1 w') (first | exact ⟨p0, p1, (Below.refl _ _).drew⟩ | exact V.keep3 hlt ‹_ ∧ _ ∧ Below _ _ _› hb | exact V.keep3 hlt ‹_ ∧ _ ∧ Below _ _ _› (b_alloc _ _))
        (first
          | (go_at_call 129; refine (shiftedBy _ _ _ R _ _ _ ?hm HQ.out n1 n2 HSm.out (M.near_rat HR.out)).mono ?_; (case hm => exact HA.out.below (HB1.out.trans ((V.low3 ‹_ ∧ _ ∧ Below _ _ _›).mono HB1.out.size))); rintro e w2 ⟨a2, cap2, rfl, hO, hb⟩; rw [← HP.out] at hO; have HO := Lib.hid hO; have HB2 := Lib.hid hb; clear hO)
          | (go_at_call 143; refine (leastFixedPoint _ _ _ P _ _ z _ ?hq ?hi HLB.out).mono ?_;
              (case hq => first | (have := sq_shift (by rw [← HP.out]; exact HO.out.mat) HSh.out n1 n2; rw [← HP.out] at this; exact this) | (have := sq_shift (by rw [← HP.out]; exact HO.out.mat) HSh.out n1 n2; rw [← HP.out] at this; exact this.below (b_alloc _ _)));
              (case hi => first | (have := (own_made w2 0 n (Nat.zero_le _) (by unfold maxLen; omega)).ints'; rw [HZd.out] at this; exact this) | (have := (own_made w1.drew 0 n (Nat.zero_le _) (by unfold maxLen; omega)).ints'; rw [HZd.out] at this; exact this.below HB2.out));
              rintro e w3 ⟨b3, m, c3, rfl, ho, hb⟩))
      all_goals
        have hb3 : Below w1.heap.size w1 w3 := V.low3 (by assumption)
        have hsz := HB2.out.size
        have HB3 := Lib.hid (HX.out.trans (HB1.out.trans (hb3.mono HB1.out.size)))
        have hsl : w0.heap.size ≤ w2.heap.size := by
          have q : (w1.drew).heap.size = w1.heap.size := rfl
          simp [q] at hsz
          omega
        have HO3 := Lib.hid (ho.mono (B' := w0.heap.size) (by first | omega | (simp; omega)))
        clear ho hb hb3 hsz
        go_wp2
        go_ret2
        rw [HE.out]
        exact ⟨_, _, _, rfl, HO3.out, HB3.out⟩
    · simp only [Bool.not_eq_true] at hr
      have HR := Lib.hid hr
      have HE : Hid (M.potRes R num den = ([], 1)) := by show _ = _; unfold M.potRes; rw [hs, hr]; rfl
      clear h hs hr
      go_enter Tryz.func67, Tryz.ntmps67
      go_wp2_with fail
      simp only [← hwd] at *
      clear hwd
      refine (isSquare_b _ _ _ R _ true HS.out HA.out).mono ?_
      rintro e w' ⟨rfl, rfl⟩
      go_wp2_with fail
      refine (isRatio_b _ _ false HR.out _).mono ?_
      rintro e w1 ⟨rfl, hb1⟩
      have HB1 := Lib.hid (HX.out.trans hb1)
      clear hb1
      go_wp2
      go_ret2
      exact VRes.nil HE.out HB1.out
  · simp only [Bool.not_eq_true] at hs
    have HS := Lib.hid hs
    have HE : Hid (M.potRes R num den = ([], 1)) := by show _ = _; unfold M.potRes; rw [hs]; rfl
    clear h hs
    go_enter Tryz.func67, Tryz.ntmps67
    go_wp2_with fail
    simp only [← hwd] at *
    clear hwd
    refine (isSquare_b _ _ _ R _ false HS.out HA.out).mono ?_
    rintro e w' ⟨rfl, rfl⟩
    go_wp2
    go_ret2
    exact VRes.nil HE.out HX.out.below
set_option maxRecDepth 100000 in
set_option maxHeartbeats 2000000 in
theorem sPotentialOf (a : Option Addr) (n cap : Nat) (R : List (List Int)) (num den : Int) (w0 : World) (h : Mat w0 a n R) :
    Calls Tryz.prog 68 #[.slice a n cap, .agg #[.int .i64 num, .int .i64 den]] w0 (VRes (M.potRes R num den) w0) := by
  obtain ⟨w, hwd⟩ : ∃ w, w = w0.alloc (rbox num den) := ⟨_, rfl⟩
  have HX : Hid (Boxed w0 w num den) := by show Boxed _ _ _ _; rw [hwd]; exact boxed _ _ _
  have HA : Hid (Mat w a n R) := h.below HX.out.below
  have HZ := Lib.hid HX.out.size
  by_cases hs : M.sqB R = true
  · have HS := Lib.hid hs
    by_cases hr : M.isRat num den = true
    · have HR := Lib.hid hr
      obtain ⟨r1, n1, n2, r4⟩ := sq_parts HA.out hs
      have HQ := Lib.hid r1
      have HSm := Lib.hid r4
      have HE : Hid (M.potRes R num den = M.lfpL (M.mk n n (M.shf (M.ent R) num den)) n (M.zerosL n)) := pot_lfp HA.out.1 hs hr
      have HSh : Hid (∀ i j, i < n → j < n → M.Sm 1000001000000 (M.shf (M.ent R) num den i j)) := fun i j hi hj => M.shf_sm (M.near_rat hr) (r4 i j hi hj)
      have HLB : Hid (∀ k, k < n → M.Big ((M.zerosL n).getD k 0)) := fun k _ => by rw [M.zeros_at]; exact .inr (by omega)
      have hmk := run_make_row' (P := Tryz.prog) 34 2 (.int .i64 0) 8 Tryz.underlying34 info64 rfl .i64 .i64 n (by omega) (by omega)
      obtain ⟨np, hnp⟩ : ∃ np, np = M.noPos (M.ent (M.mk n n (M.shf (M.ent R) num den))) n := ⟨_, rfl⟩
      -- the list that is told is finite exactly if it holds values
      have HF : Hid (np = true → (M.applyM (M.starM (M.mk n n (M.shf (M.ent R) num den)) n) (M.zerosL n)).all M.isFin = M.isVec (M.applyM (M.starM (M.mk n n (M.shf (M.ent R) num den)) n) (M.zerosL n))) := fun hp => by
        rw [hnp, M.noPos_mk] at hp
        have hl := HA.out.1
        have e : M.applyM (M.starM (M.mk n n (M.shf (M.ent R) num den)) n) (M.zerosL n) = M.potL R num den := by unfold M.potL M.shM; rw [hl]
        rw [e, M.isVec_all (by rw [M.pot_len, hl]; exact n1) (by rw [M.pot_len, hl]; exact n2), Bool.eq_iff_iff, List.all_eq_true, List.all_eq_true]
        refine ⟨fun k x hx => M.isVal_of_fin (k x hx), fun k x hx => ?_⟩
        have hv := M.isVal_t (k x hx)
        obtain ⟨i, hi, rfl⟩ := List.mem_iff_getElem.1 hx
        have h1 := (M.pot_sm hs hr (by rw [hl]; exact hp) (i := i) (by rw [← M.pot_len R num den]; exact hi)).2.1
        have e2 : (M.potL R num den).getD i 0 = (M.potL R num den)[i] := by simp [hi]
        rw [e2] at h1
        simp [M.isFin]; omega
      obtain ⟨P, hP⟩ : ∃ P, P = M.mk n n (M.shf (M.ent R) num den) := ⟨_, rfl⟩
      have HP := Lib.hid hP
      obtain ⟨z, hzd⟩ : ∃ z, z = M.zerosL n := ⟨_, rfl⟩
      have HZd : Hid (((List.range n).map fun _ => (0 : Int)) = z) := by show _ = _; rw [hzd]; exact M.zeros_made n
      rw [← hP, ← hzd] at HE HF
      rw [← hzd] at HLB
      rw [← hP] at hnp
      have HNp := Lib.hid hnp
      clear h hs hr r1 r4 hP hzd hnp
      go_enter Tryz.func68, Tryz.ntmps68
      go_wp2_with fail
      simp only [← hwd] at *
      clear hwd
      refine (sSquare_b _ _ _ R _ true HS.out HA.out).mono ?_
      rintro e w' ⟨rfl, qd, rfl⟩
      obtain ⟨p0, p1⟩ := HX.out.cells (b_draws w qd)
      go_wp2_with fail
      refine (sIsRatio_b _ _ true HR.out _).mono ?_
      rintro e w1 ⟨rfl, hb1⟩
      have HB1 := Lib.hid ((b_draws w qd).trans hb1)
      obtain ⟨p0, p1⟩ := HX.out.cells HB1.out
      clear hb1
      go_wp2_with fail
      refine (sShift _ _ _ R _ _ _ (HA.out.below HB1.out) HQ.out n1 n2 HSm.out (M.near_rat HR.out)).mono ?_
      rintro e w2 ⟨a2, cap2, rfl, hO, hb⟩
      have hq := sq_shift hO.mat HSh.out n1 n2
      rw [← HP.out] at hO hq
      have HQ2 := Lib.hid hq
      have HB2 := Lib.hid (bnext HB1.out hb)
      clear hO hb hq
      go_wp2_with fail
      refine (sStar _ _ _ P _ HQ2.out).mono ?_
      rintro e w3 ⟨b3, c3, rfl, hO, hb⟩
      rw [← HNp.out]
      have HO := Lib.hid hO
      have HB3 := Lib.hid (bnext HB2.out hb)
      clear hO hb
      cases np with
      | true =>
        have hO2 := HO.out
        rw [M.bm_star n2 HQ2.out.2.2.1 HNp.out.symm] at hO2
        have HO2 := Lib.hid hO2
        have HSB : Hid (∀ i j, i < n → j < n → M.Big (M.ent (M.starM P n) i j)) := fun i j hi hj => M.star_big n2 HQ2.out.2.2.1 HNp.out.symm hi hj
        obtain ⟨b, hb⟩ : ∃ b, b = M.isVec (M.applyM (M.starM P n) z) := ⟨_, rfl⟩
        have HM : Hid ((M.applyM (M.starM P n) z).all M.isFin = b) := by show _ = _; rw [hb]; exact HF.out rfl
        have HEE : Hid (M.potRes R num den = if b then (M.applyM (M.starM P n) z, 0) else ([], 3)) := by
          show _ = _; rw [HE.out, hb]; unfold M.lfpL; rw [← HNp.out]; rfl
        clear hO2 hb HO HF HE
        cases b with
        | true =>
          go_wp2_with fail
          refine (sApplyB _ _ _ _ _ _ _ z _ (HO2.out.mat.below (b_alloc _ _)) (by have := (own_made w3 0 n (Nat.zero_le _) (by unfold maxLen; omega)).ints'; rw [HZd.out] at this; exact this) (rect_mk _ _ _) HSB.out HLB.out n2 n1 n2).mono ?_
          rintro e w4 ⟨b4, c4, rfl, hx, hb⟩
          have HB4 := Lib.hid (HB3.out.trans ((bel1 hb).mono HB3.out.size))
          have HX4 := Lib.hid (hx.mono (B' := w0.heap.size) (by have := HB3.out.size; have := HZ.out; simp; omega))
          clear hx hb hmk
          go_wp2_with fail
          refine (sAllF_b _ _ _ _ true HM.out _ HX4.out.ints').mono ?_
          rintro e w' ⟨rfl, rfl⟩
          go_wp2
          go_ret2
          rw [HEE.out]
          exact ⟨_, _, _, rfl, HX4.out, HX.out.trans HB4.out⟩
        | false =>
          go_wp2_with fail
          refine (sApplyB _ _ _ _ _ _ _ z _ (HO2.out.mat.below (b_alloc _ _)) (by have := (own_made w3 0 n (Nat.zero_le _) (by unfold maxLen; omega)).ints'; rw [HZd.out] at this; exact this) (rect_mk _ _ _) HSB.out HLB.out n2 n1 n2).mono ?_
          rintro e w4 ⟨b4, c4, rfl, hx, hb⟩
          have HB4 := Lib.hid (HB3.out.trans ((bel1 hb).mono HB3.out.size))
          have HX4 := Lib.hid (hx.mono (B' := w0.heap.size) (by have := HB3.out.size; have := HZ.out; simp; omega))
          clear hx hb hmk
          go_wp2_with fail
          refine (sAllF_b _ _ _ _ false HM.out _ HX4.out.ints').mono ?_
          rintro e w' ⟨rfl, rfl⟩
          go_wp2
          go_ret2
          exact VRes.nil HEE.out (HX.out.trans HB4.out)
      | false =>
        have HEE : Hid (M.potRes R num den = ([], 5)) := by
          show _ = _; rw [HE.out]; unfold M.lfpL; rw [← HNp.out]; rfl
        go_wp2
        go_ret2
        exact VRes.nil HEE.out (HX.out.trans HB3.out)
    · simp only [Bool.not_eq_true] at hr
      have HR := Lib.hid hr
      have HE : Hid (M.potRes R num den = ([], 1)) := by show _ = _; unfold M.potRes; rw [hs, hr]; rfl
      clear h hs hr
      go_enter Tryz.func68, Tryz.ntmps68
      go_wp2_with fail
      simp only [← hwd] at *
      clear hwd
      refine (sSquare_b _ _ _ R _ true HS.out HA.out).mono ?_
      rintro e w' ⟨rfl, qd, rfl⟩
      obtain ⟨p0, p1⟩ := HX.out.cells (b_draws w qd)
      go_wp2_with fail
      refine (sIsRatio_b _ _ false HR.out _).mono ?_
      rintro e w1 ⟨rfl, hb1⟩
      have HB1 := Lib.hid (HX.out.trans ((b_draws w qd).trans hb1))
      clear hb1
      go_wp2
      go_ret2
      exact VRes.nil HE.out HB1.out
  · simp only [Bool.not_eq_true] at hs
    have HS := Lib.hid hs
    have HE : Hid (M.potRes R num den = ([], 1)) := by show _ = _; unfold M.potRes; rw [hs]; rfl
    clear h hs
    go_enter Tryz.func68, Tryz.ntmps68
    go_wp2_with fail
    simp only [← hwd] at *
    clear hwd
    refine (sSquare_b _ _ _ R _ false HS.out HA.out).mono ?_
    rintro e w' ⟨rfl, qd, rfl⟩
    go_wp2
    go_ret2
    exact VRes.nil HE.out (HX.out.trans (b_draws w qd))
end V
end Go.Proofs.YtmcihaihbnnblaaGreat

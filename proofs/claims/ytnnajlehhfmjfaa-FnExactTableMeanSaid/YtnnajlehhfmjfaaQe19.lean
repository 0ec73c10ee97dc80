/- Texts laid together: Fix1, Pot1, Egv, Cty, Sct. -/
import Derived.Test.YtnnajlehhfmjfaaQe13
import Derived.Test.YtnnajlehhfmjfaaQe18
import Derived.Test.YtnnajlehhfmjfaaQe3
import Derived.Test.YtnnajlehhfmjfaaQe4
import Derived.Test.YtnnajlehhfmjfaaQe7
import Derived.Deep.RegionWith
import Derived.Deep.RegionHeld3
import Derived.Test.YtnnajlehhfmjfaaQe14
import Derived.Test.YtnnajlehhfmjfaaQe11
set_option linter.unusedSimpArgs false
set_option linter.unusedVariables false
set_option linter.unusedSectionVars false
namespace Go.Proofs.Ytnnajlehhfmjfaa.V
open Go.RowKit

/-- What the least fixed point of a matrix and a vector that fit is. -/
def M.lfpL (R : List (List Int)) (n : Nat) (l : List Int) : List Int × Int := if M.noPos (M.ent R) n then (if M.isVec (M.applyM (M.starM R n) l) then (M.applyM (M.starM R n) l, 0) else ([], 3)) else ([], 5)
set_option maxRecDepth 100000 in
set_option maxHeartbeats 1000000 in
theorem leastFixedPoint (a : Option Addr) (n cap : Nat) (R : List (List Int)) (a' : Option Addr) (cap' : Nat) (l : List Int) (w : World) (h : Sq w a n R) (h' : Ints .i64 w a' n l) (hlb : ∀ k, k < n → M.Big (l.getD k 0)) :
    Calls Try.prog 75 #[.slice a n cap, .slice a' n cap'] w (VRes (M.lfpL R n l) w) := by
  have HQ := Lib.hid h
  have HI := Lib.hid h'
  have HSm := Lib.hid h.2.2.1
  obtain ⟨-, -, -, n1, n2⟩ := h
  have HLB := Lib.hid hlb
  clear hlb h'
  obtain ⟨r, hr⟩ : ∃ r, r = M.starL R n := ⟨_, rfl⟩
  have HC : Calls Try.prog 101 #[.slice a n cap] w (CPost r w) := by rw [hr]; exact starOf _ _ _ _ _ HQ.out
  by_cases hp : M.noPos (M.ent R) n = true
  · have hr2 : r = (M.starM R n, true) := by rw [hr]; unfold M.starL; rw [hp]; rfl
    have HSB : Hid (∀ i j, i < n → j < n → M.Big (M.ent (M.starM R n) i j)) := fun i j hi hj => M.star_big n2 HSm.out hp hi hj
    obtain ⟨b, hb⟩ : ∃ b, b = M.isVec (M.applyM (M.starM R n) l) := ⟨_, rfl⟩
    have HM := Lib.hid hb.symm
    have HE : Hid (M.lfpL R n l = if b then (M.applyM (M.starM R n) l, 0) else ([], 3)) := by
      show _ = _; rw [hb]; unfold M.lfpL; rw [hp]; rfl
    clear hr hp hb
    subst hr2
    cases b with
    | true =>
      go_enter Try.func75, Try.ntmps75
      go_wp2_with fail
      refine HC.mono ?_
      rintro e w1 ⟨a2, m, cap2, rfl, hO, hb⟩
      obtain rfl : m = n := by have := hO.len; simpa [M.starM] using this
      have HO := Lib.hid hO
      have HB := Lib.hid hb
      clear hO hb
      go_wp2_with fail
      refine (timesColumn _ _ _ _ _ _ _ l _ HO.out.mat (HI.out.below HB.out) (rect_mk _ _ _) HSB.out HLB.out n1 n2 n1 n2).mono ?_
      rintro e w2 ⟨b3, c3, rfl, hx, hb⟩
      have HX := Lib.hid (hx.mono HB.out.size)
      have HB2 := Lib.hid (bnext HB.out hb)
      clear hx hb
      go_wp2_with fail
      refine (checkedVector_t _ _ _ _ _ HM.out HX.out.ints').mono ?_
      rintro e w' ⟨rfl, rfl⟩
      go_wp2
      go_ret2
      rw [HE.out]
      exact ⟨_, _, _, rfl, HX.out, HB2.out⟩
    | false =>
      go_enter Try.func75, Try.ntmps75
      go_wp2_with fail
      refine HC.mono ?_
      rintro e w1 ⟨a2, m, cap2, rfl, hO, hb⟩
      obtain rfl : m = n := by have := hO.len; simpa [M.starM] using this
      have HO := Lib.hid hO
      have HB := Lib.hid hb
      clear hO hb
      go_wp2_with fail
      refine (timesColumn _ _ _ _ _ _ _ l _ HO.out.mat (HI.out.below HB.out) (rect_mk _ _ _) HSB.out HLB.out n1 n2 n1 n2).mono ?_
      rintro e w2 ⟨b3, c3, rfl, hx, hb⟩
      have HX := Lib.hid (hx.mono HB.out.size)
      have HB2 := Lib.hid (bnext HB.out hb)
      clear hx hb
      go_wp2_with fail
      refine (checkedVector_f _ _ _ _ _ HM.out HX.out.ints').mono ?_
      rintro e w' ⟨rfl, rfl⟩
      go_wp2
      go_ret2
      exact VRes.nil HE.out HB2.out
  · simp only [Bool.not_eq_true] at hp
    have hr2 : r = ([], false) := by rw [hr]; unfold M.starL; rw [hp]; rfl
    have HE : Hid (M.lfpL R n l = ([], 5)) := by
      show _ = _; unfold M.lfpL; rw [hp]; rfl
    clear hr hp
    subst hr2
    go_enter Try.func75, Try.ntmps75
    go_wp2_with (go_at_call 101; refine HC.mono ?_; rintro e w1 ⟨a2, m, cap2, rfl, hO, hb⟩; have HB := Lib.hid hb; clear hO hb)
    go_ret2
    exact VRes.nil HE.out HB.out

end Go.Proofs.Ytnnajlehhfmjfaa.V

namespace Go.Proofs.Ytnnajlehhfmjfaa
namespace M
theorem noPos_mk (n : Nat) (f : Nat → Nat → Int) : noPos (ent (mk n n f)) n = noPos f n := noPos_congr fun _ _ hi hj => ent_mk _ _ _ _ _ hi hj
theorem starM_mk (n : Nat) (f : Nat → Nat → Int) : starM (mk n n f) n = mk n n (starF f n) := mk_congr fun _ hi _ hj => starF_congr (fun _ _ hi hj => ent_mk _ _ _ _ _ hi hj) hi hj
def finV (x : Int) : Bool := isFin x
theorem zeros_len (n : Nat) : (zerosL n).length = n := by simp [zerosL]
theorem zeros_made (n : Nat) : ((List.range n).map fun _ => (0 : Int)) = zerosL n := by
  unfold zerosL
  apply List.ext_getElem
  · simp
  · intro i h1 h2; simp
end M
namespace V
open Go.RowKit
theorem sq_shift {w : World} {a : Option Addr} {n : Nat} {f : Nat → Nat → Int} (h : Mat w a n (M.mk n n f)) (hf : ∀ i j, i < n → j < n → M.Sm 1000001000000 (f i j)) (n1 : 1 ≤ n) (n2 : n ≤ 10) : Sq w a n (M.mk n n f) :=
  ⟨h, rect_mk _ _ _, fun i j hi hj => by rw [M.ent_mk _ _ _ _ _ hi hj]; exact hf i j hi hj, n1, n2⟩
set_option maxRecDepth 100000 in
set_option maxHeartbeats 400000 in
theorem sAllF (a : Option Addr) (n cap : Nat) (l : List Int) (w : World) (h : Ints .i64 w a n l) :
    Calls Try.prog 74 #[.slice a n cap, .bool true] w fun e w' => e = .returned (.bool (l.all M.isFin)) ∧ w = w' := by
  obtain ⟨hl, hm, hr⟩ := h
  unfold maxLen at hm
  have HL := Lib.hid hl
  clear hl
  go_enter Try.func74, Try.ntmps74
  go_wp2
  go_loop [5] (fun i => ∃ k : Nat, k ≤ n ∧ i = .int .i64 k ∧ Hid ((l.take k).all M.isFin = true)) (fun i => n - (intOf i).toNat)
  case atStart => exact ⟨0, Nat.zero_le _, rfl, rfl⟩
  case round =>
    obtain ⟨k, hk, rfl, HA⟩ := hrel
    by_cases hlt : k < n
    · rcases hr with h0 | ⟨b, off, rfl, hbl, hc⟩
      · omega
      · have hck := hc k hlt
        have hsn := M.take_snoc l k (by have := HL.out; omega)
        obtain ⟨x, hx⟩ : ∃ x, x = l.getD k 0 := ⟨_, rfl⟩
        rw [← hx] at hck hsn
        have HX := Lib.hid hx
        have HS := Lib.hid hsn
        clear hc hx hsn
        by_cases hb : x = -1000000000000000
        · have HF : Hid (l.all M.isFin = false) := M.all_false _ l k (by have := HL.out; omega) (by rw [← HX.out, hb]; rfl)
          have hv : M.isVal x = true := by rw [hb]; exact M.bot_val
          subst hb
          go_wp2_with (first | (go_at_call 116; refine (sIsValue _ _).mono ?_; rintro e w' ⟨rfl, rfl⟩))
          go_ret
          exact ⟨retB (by rw [HF.out]), rfl⟩
        · have hb2 : (x == -1000000000000000) = false := by simpa using hb
          have hvf : M.isVal x = M.isFin x := by unfold M.isVal; rw [decide_eq_false hb, Bool.false_or]
          by_cases hv : M.isVal x = true
          · have HA2 : Hid ((l.take (k + 1)).all M.isFin = true) := by show _ = _; rw [HS.out, M.all_snoc, HA.out, ← hvf, hv]; rfl
            clear hvf
            go_wp2_with (first | (go_at_call 116; refine (sIsValue _ _).mono ?_; rintro e w' ⟨rfl, rfl⟩))
            go_round
            case rel => exact ⟨k + 1, by omega, by go_num, HA2⟩
            case measure => simp [intOf]; omega
          · simp only [Bool.not_eq_true] at hv
            have HF : Hid (l.all M.isFin = false) := M.all_false _ l k (by have := HL.out; omega) (by rw [← HX.out, ← hvf, hv])
            clear hvf
            go_wp2_with (first | (go_at_call 116; refine (sIsValue _ _).mono ?_; rintro e w' ⟨rfl, rfl⟩))
            go_ret
            exact ⟨retB (by rw [HF.out]), rfl⟩
    · have hkn : k = n := by omega
      subst hkn
      have HT : Hid (l.take k = l) := M.take_all l k (by have := HL.out; omega)
      clear hr
      go_wp2
      go_ret
      exact ⟨retB (by rw [← HT.out, HA.out]), rfl⟩
theorem sAllF_b (a : Option Addr) (n cap : Nat) (l : List Int) (b : Bool) (hb : l.all M.isFin = b) (w : World) (h : Ints .i64 w a n l) :
    Calls Try.prog 74 #[.slice a n cap, .bool true] w fun e w' => e = .returned (.bool b) ∧ w = w' := by subst hb; exact sAllF a n cap l w h
/-- The plain answer, by the shifted matrix. -/
theorem pot_lfp {R : List (List Int)} {n : Nat} {num den : Int} (hn : R.length = n) (hs : M.sqB R = true) (hr : M.isRat num den = true) : M.potRes R num den = M.lfpL (M.mk n n (M.shf (M.ent R) num den)) n (M.zerosL n) := by
  subst hn
  unfold M.potRes M.lfpL
  rw [hs, hr, M.noPos_mk]
  rfl
set_option maxRecDepth 100000 in
set_option maxHeartbeats 2000000 in
theorem potentialOf (a : Option Addr) (n cap : Nat) (R : List (List Int)) (num den : Int) (w0 : World) (h : Mat w0 a n R) :
    Calls Try.prog 41 #[.slice a n cap, .agg #[.int .i64 num, .int .i64 den]] w0 (VRes (M.potRes R num den) w0) := by
  obtain ⟨w, hwd⟩ : ∃ w, w = w0.alloc (rbox num den) := ⟨_, rfl⟩
  have HX : Hid (Boxed w0 w num den) := by show Boxed _ _ _ _; rw [hwd]; exact boxed _ _ _
  have HA : Hid (Mat w a n R) := h.below HX.out.below
  have HZ := Lib.hid HX.out.size
  obtain ⟨c0, c1⟩ := HX.out.cells (Below.refl _ _)
  by_cases hs : M.sqB R = true
  · have HS := Lib.hid hs
    by_cases hr : M.isRat num den = true
    · have HR := Lib.hid hr
      obtain ⟨r1, n1, n2, r4⟩ := sq_parts HA.out hs
      have HQ := Lib.hid r1
      have HSm := Lib.hid r4
      have HE : Hid (M.potRes R num den = M.lfpL (M.mk n n (M.shf (M.ent R) num den)) n (M.zerosL n)) := pot_lfp HA.out.1 hs hr
      have HSh : Hid (∀ i j, i < n → j < n → M.Sm 1000001000000 (M.shf (M.ent R) num den i j)) := fun i j hi hj => M.shf_sm (M.near_rat hr) (r4 i j hi hj)
      have HLB : Hid (∀ k, k < n → M.Big ((M.zerosL n).getD k 0)) := fun k _ => by rw [M.zeros_at]; exact .inr (by omega)
      obtain ⟨P, hP⟩ : ∃ P, P = M.mk n n (M.shf (M.ent R) num den) := ⟨_, rfl⟩
      have HP := Lib.hid hP
      obtain ⟨z, hzd⟩ : ∃ z, z = M.zerosL n := ⟨_, rfl⟩
      have HZd : Hid (((List.range n).map fun _ => (0 : Int)) = z) := by show _ = _; rw [hzd]; exact M.zeros_made n
      rw [← hP, ← hzd] at HE
      rw [← hzd] at HLB
      have hmk := run_make_row' (P := Try.prog) 30 2 (.int .i64 0) 8 Try.underlying30 info64 rfl .i64 .i64 n (by omega) (by omega)
      clear h hs hr r1 r4 hP hzd
      go_enter Try.func41, Try.ntmps41
      go_wp2_with fail
      simp only [← hwd] at *
      clear hwd
      refine (isSquare_b _ _ _ R _ true HS.out HA.out).mono ?_
      rintro e w' ⟨rfl, rfl⟩
      go_wp2_with fail
      refine (isRatio_b _ _ true HR.out _).mono ?_
      rintro e w1 ⟨rfl, hb1⟩
      have HB1 := Lib.hid hb1
      obtain ⟨p0, p1⟩ := HX.out.cells hb1
      have hlt : w0.heap.size < w1.heap.size := by have := HB1.out.size; have := HZ.out; omega
      clear hb1
      go_wp2
      go_region_held3 (fun w' => w'.cell? ⟨w0.heap.size, 0, none⟩ = some (.int .i64 num) ∧ w'.cell? ⟨w0.heap.size, 1, none⟩ = some (.int .i64 den) ∧ Below w1.heap.size w1 w') (first | exact ⟨p0, p1, (Below.refl _ _).drew⟩ | exact V.keep3 hlt ‹_ ∧ _ ∧ Below _ _ _› hb | exact V.keep3 hlt ‹_ ∧ _ ∧ Below _ _ _› (b_alloc _ _))
        (first
          | (go_at_call 67; refine (shiftedBy _ _ _ R _ _ _ ?hm HQ.out n1 n2 HSm.out (M.near_rat HR.out)).mono ?_; (case hm => exact HA.out.below (HB1.out.trans ((V.low3 ‹_ ∧ _ ∧ Below _ _ _›).mono HB1.out.size))); rintro e w2 ⟨a2, cap2, rfl, hO, hb⟩; rw [← HP.out] at hO; have HO := Lib.hid hO; have HB2 := Lib.hid hb; clear hO)
          | (go_at_call 75; refine (leastFixedPoint _ _ _ P _ _ z _ ?hq ?hi HLB.out).mono ?_;
              (case hq => first | (have := sq_shift (by rw [← HP.out]; exact HO.out.mat) HSh.out n1 n2; rw [← HP.out] at this; exact this) | (have := sq_shift (by rw [← HP.out]; exact HO.out.mat) HSh.out n1 n2; rw [← HP.out] at this; exact this.below (b_alloc _ _)));
              (case hi => first | (have := (own_made w2 0 n (Nat.zero_le _) (by unfold maxLen; omega)).ints'; rw [HZd.out] at this; exact this) | (have := (own_made w1.drew 0 n (Nat.zero_le _) (by unfold maxLen; omega)).ints'; rw [HZd.out] at this; exact this.below HB2.out));
              rintro e w3 ⟨b3, m, c3, rfl, ho, hb⟩))
      all_goals
        have hb3 : Below w1.heap.size w1 w3 := V.low3 (by assumption)
        have hsz := HB2.out.size
        have HB3 := Lib.hid (HX.out.trans (HB1.out.trans (hb3.mono HB1.out.size)))
        have hsl : w0.heap.size ≤ w2.heap.size := by
          have q : (w1.drew).heap.size = w1.heap.size := rfl
          simp [q] at hsz
          omega
        have HO3 := Lib.hid (ho.mono (B' := w0.heap.size) (by first | omega | (simp; omega)))
        clear ho hb hb3 hsz
        go_wp2
        go_ret2
        rw [HE.out]
        exact ⟨_, _, _, rfl, HO3.out, HB3.out⟩
    · simp only [Bool.not_eq_true] at hr
      have HR := Lib.hid hr
      have HE : Hid (M.potRes R num den = ([], 1)) := by show _ = _; unfold M.potRes; rw [hs, hr]; rfl
      clear h hs hr
      go_enter Try.func41, Try.ntmps41
      go_wp2_with fail
      simp only [← hwd] at *
      clear hwd
      refine (isSquare_b _ _ _ R _ true HS.out HA.out).mono ?_
      rintro e w' ⟨rfl, rfl⟩
      go_wp2_with fail
      refine (isRatio_b _ _ false HR.out _).mono ?_
      rintro e w1 ⟨rfl, hb1⟩
      have HB1 := Lib.hid (HX.out.trans hb1)
      clear hb1
      go_wp2
      go_ret2
      exact VRes.nil HE.out HB1.out
  · simp only [Bool.not_eq_true] at hs
    have HS := Lib.hid hs
    have HE : Hid (M.potRes R num den = ([], 1)) := by show _ = _; unfold M.potRes; rw [hs]; rfl
    clear h hs
    go_enter Try.func41, Try.ntmps41
    go_wp2_with fail
    simp only [← hwd] at *
    clear hwd
    refine (isSquare_b _ _ _ R _ false HS.out HA.out).mono ?_
    rintro e w' ⟨rfl, rfl⟩
    go_wp2
    go_ret2
    exact VRes.nil HE.out HX.out.below
set_option maxRecDepth 100000 in
set_option maxHeartbeats 2000000 in
theorem sPotentialOf (a : Option Addr) (n cap : Nat) (R : List (List Int)) (num den : Int) (w0 : World) (h : Mat w0 a n R) :
    Calls Try.prog 40 #[.slice a n cap, .agg #[.int .i64 num, .int .i64 den]] w0 (VRes (M.potRes R num den) w0) := by
  obtain ⟨w, hwd⟩ : ∃ w, w = w0.alloc (rbox num den) := ⟨_, rfl⟩
  have HX : Hid (Boxed w0 w num den) := by show Boxed _ _ _ _; rw [hwd]; exact boxed _ _ _
  have HA : Hid (Mat w a n R) := h.below HX.out.below
  have HZ := Lib.hid HX.out.size
  by_cases hs : M.sqB R = true
  · have HS := Lib.hid hs
    by_cases hr : M.isRat num den = true
    · have HR := Lib.hid hr
      obtain ⟨r1, n1, n2, r4⟩ := sq_parts HA.out hs
      have HQ := Lib.hid r1
      have HSm := Lib.hid r4
      have HE : Hid (M.potRes R num den = M.lfpL (M.mk n n (M.shf (M.ent R) num den)) n (M.zerosL n)) := pot_lfp HA.out.1 hs hr
      have HSh : Hid (∀ i j, i < n → j < n → M.Sm 1000001000000 (M.shf (M.ent R) num den i j)) := fun i j hi hj => M.shf_sm (M.near_rat hr) (r4 i j hi hj)
      have HLB : Hid (∀ k, k < n → M.Big ((M.zerosL n).getD k 0)) := fun k _ => by rw [M.zeros_at]; exact .inr (by omega)
      have hmk := run_make_row' (P := Try.prog) 30 2 (.int .i64 0) 8 Try.underlying30 info64 rfl .i64 .i64 n (by omega) (by omega)
      obtain ⟨np, hnp⟩ : ∃ np, np = M.noPos (M.ent (M.mk n n (M.shf (M.ent R) num den))) n := ⟨_, rfl⟩
      -- the list that is told is finite exactly if it holds values
      have HF : Hid (np = true → (M.applyM (M.starM (M.mk n n (M.shf (M.ent R) num den)) n) (M.zerosL n)).all M.isFin = M.isVec (M.applyM (M.starM (M.mk n n (M.shf (M.ent R) num den)) n) (M.zerosL n))) := fun hp => by
        rw [hnp, M.noPos_mk] at hp
        have hl := HA.out.1
        have e : M.applyM (M.starM (M.mk n n (M.shf (M.ent R) num den)) n) (M.zerosL n) = M.potL R num den := by unfold M.potL M.shM; rw [hl]
        rw [e, M.isVec_all (by rw [M.pot_len, hl]; exact n1) (by rw [M.pot_len, hl]; exact n2), Bool.eq_iff_iff, List.all_eq_true, List.all_eq_true]
        refine ⟨fun k x hx => M.isVal_of_fin (k x hx), fun k x hx => ?_⟩
        have hv := M.isVal_t (k x hx)
        obtain ⟨i, hi, rfl⟩ := List.mem_iff_getElem.1 hx
        have h1 := (M.pot_sm hs hr (by rw [hl]; exact hp) (i := i) (by rw [← M.pot_len R num den]; exact hi)).2.1
        have e2 : (M.potL R num den).getD i 0 = (M.potL R num den)[i] := by simp [hi]
        rw [e2] at h1
        simp [M.isFin]; omega
      obtain ⟨P, hP⟩ : ∃ P, P = M.mk n n (M.shf (M.ent R) num den) := ⟨_, rfl⟩
      have HP := Lib.hid hP
      obtain ⟨z, hzd⟩ : ∃ z, z = M.zerosL n := ⟨_, rfl⟩
      have HZd : Hid (((List.range n).map fun _ => (0 : Int)) = z) := by show _ = _; rw [hzd]; exact M.zeros_made n
      rw [← hP, ← hzd] at HE HF
      rw [← hzd] at HLB
      rw [← hP] at hnp
      have HNp := Lib.hid hnp
      clear h hs hr r1 r4 hP hzd hnp
      go_enter Try.func40, Try.ntmps40
      go_wp2_with fail
      simp only [← hwd] at *
      clear hwd
      refine (sSquare_b _ _ _ R _ true HS.out HA.out).mono ?_
      rintro e w' ⟨rfl, qd, rfl⟩
      obtain ⟨p0, p1⟩ := HX.out.cells (b_draws w qd)
      go_wp2_with fail
      refine (sIsRatio_b _ _ true HR.out _).mono ?_
      rintro e w1 ⟨rfl, hb1⟩
      have HB1 := Lib.hid ((b_draws w qd).trans hb1)
      obtain ⟨p0, p1⟩ := HX.out.cells HB1.out
      clear hb1
      go_wp2_with fail
      refine (sShift _ _ _ R _ _ _ (HA.out.below HB1.out) HQ.out n1 n2 HSm.out (M.near_rat HR.out)).mono ?_
      rintro e w2 ⟨a2, cap2, rfl, hO, hb⟩
      have hq := sq_shift hO.mat HSh.out n1 n2
      rw [← HP.out] at hO hq
      have HQ2 := Lib.hid hq
      have HB2 := Lib.hid (bnext HB1.out hb)
      clear hO hb hq
      go_wp2_with fail
      refine (sStar _ _ _ P _ HQ2.out).mono ?_
      rintro e w3 ⟨b3, c3, rfl, hO, hb⟩
      rw [← HNp.out]
      have HO := Lib.hid hO
      have HB3 := Lib.hid (bnext HB2.out hb)
      clear hO hb
      cases np with
      | true =>
        have hO2 := HO.out
        rw [M.bm_star n2 HQ2.out.2.2.1 HNp.out.symm] at hO2
        have HO2 := Lib.hid hO2
        have HSB : Hid (∀ i j, i < n → j < n → M.Big (M.ent (M.starM P n) i j)) := fun i j hi hj => M.star_big n2 HQ2.out.2.2.1 HNp.out.symm hi hj
        obtain ⟨b, hb⟩ : ∃ b, b = M.isVec (M.applyM (M.starM P n) z) := ⟨_, rfl⟩
        have HM : Hid ((M.applyM (M.starM P n) z).all M.isFin = b) := by show _ = _; rw [hb]; exact HF.out rfl
        have HEE : Hid (M.potRes R num den = if b then (M.applyM (M.starM P n) z, 0) else ([], 3)) := by
          show _ = _; rw [HE.out, hb]; unfold M.lfpL; rw [← HNp.out]; rfl
        clear hO2 hb HO HF HE
        cases b with
        | true =>
          go_wp2_with fail
          refine (sApplyB _ _ _ _ _ _ _ z _ (HO2.out.mat.below (b_alloc _ _)) (by have := (own_made w3 0 n (Nat.zero_le _) (by unfold maxLen; omega)).ints'; rw [HZd.out] at this; exact this) (rect_mk _ _ _) HSB.out HLB.out n2 n1 n2).mono ?_
          rintro e w4 ⟨b4, c4, rfl, hx, hb⟩
          have HB4 := Lib.hid (HB3.out.trans ((bel1 hb).mono HB3.out.size))
          have HX4 := Lib.hid (hx.mono (B' := w0.heap.size) (by have := HB3.out.size; have := HZ.out; simp; omega))
          clear hx hb hmk
          go_wp2_with fail
          refine (sAllF_b _ _ _ _ true HM.out _ HX4.out.ints').mono ?_
          rintro e w' ⟨rfl, rfl⟩
          go_wp2
          go_ret2
          rw [HEE.out]
          exact ⟨_, _, _, rfl, HX4.out, HX.out.trans HB4.out⟩
        | false =>
          go_wp2_with fail
          refine (sApplyB _ _ _ _ _ _ _ z _ (HO2.out.mat.below (b_alloc _ _)) (by have := (own_made w3 0 n (Nat.zero_le _) (by unfold maxLen; omega)).ints'; rw [HZd.out] at this; exact this) (rect_mk _ _ _) HSB.out HLB.out n2 n1 n2).mono ?_
          rintro e w4 ⟨b4, c4, rfl, hx, hb⟩
          have HB4 := Lib.hid (HB3.out.trans ((bel1 hb).mono HB3.out.size))
          have HX4 := Lib.hid (hx.mono (B' := w0.heap.size) (by have := HB3.out.size; have := HZ.out; simp; omega))
          clear hx hb hmk
          go_wp2_with fail
          refine (sAllF_b _ _ _ _ false HM.out _ HX4.out.ints').mono ?_
          rintro e w' ⟨rfl, rfl⟩
          go_wp2
          go_ret2
          exact VRes.nil HEE.out (HX.out.trans HB4.out)
      | false =>
        have HEE : Hid (M.potRes R num den = ([], 5)) := by
          show _ = _; rw [HE.out]; unfold M.lfpL; rw [← HNp.out]; rfl
        go_wp2
        go_ret2
        exact VRes.nil HEE.out (HX.out.trans HB3.out)
    · simp only [Bool.not_eq_true] at hr
      have HR := Lib.hid hr
      have HE : Hid (M.potRes R num den = ([], 1)) := by show _ = _; unfold M.potRes; rw [hs, hr]; rfl
      clear h hs hr
      go_enter Try.func40, Try.ntmps40
      go_wp2_with fail
      simp only [← hwd] at *
      clear hwd
      refine (sSquare_b _ _ _ R _ true HS.out HA.out).mono ?_
      rintro e w' ⟨rfl, qd, rfl⟩
      obtain ⟨p0, p1⟩ := HX.out.cells (b_draws w qd)
      go_wp2_with fail
      refine (sIsRatio_b _ _ false HR.out _).mono ?_
      rintro e w1 ⟨rfl, hb1⟩
      have HB1 := Lib.hid (HX.out.trans ((b_draws w qd).trans hb1))
      clear hb1
      go_wp2
      go_ret2
      exact VRes.nil HE.out HB1.out
  · simp only [Bool.not_eq_true] at hs
    have HS := Lib.hid hs
    have HE : Hid (M.potRes R num den = ([], 1)) := by show _ = _; unfold M.potRes; rw [hs]; rfl
    clear h hs
    go_enter Try.func40, Try.ntmps40
    go_wp2_with fail
    simp only [← hwd] at *
    clear hwd
    refine (sSquare_b _ _ _ R _ false HS.out HA.out).mono ?_
    rintro e w' ⟨rfl, qd, rfl⟩
    go_wp2
    go_ret2
    exact VRes.nil HE.out (HX.out.trans (b_draws w qd))
end V
end Go.Proofs.Ytnnajlehhfmjfaa

namespace Go.Proofs.Ytnnajlehhfmjfaa
namespace M
def eigL (R : List (List Int)) : List Int := (List.range R.length).map fun i => starF (shf (ent R) (bestR (ent R) R.length).1 (bestR (ent R) R.length).2) R.length i (vx (bestCyc R) 0)
def eigOk (R : List (List Int)) : List Int × (Int × Int) × Int := if isVec (eigL R) then (eigL R, bestR (ent R) R.length, 0) else ([], (0, 0), 3)
def eigRes (R : List (List Int)) : List Int × (Int × Int) × Int := if (cycMeanRes R).2 = 0 then eigOk R else ([], (0, 0), (cycMeanRes R).2)
/-- What is at hand where there is a cycle mean. -/
theorem eig_t {R : List (List Int)} (h : (cycMeanRes R).2 = 0) : ∃ (c : Nat) (L : List Int), sqB R = true ∧ hasCyc (ent R) R.length = true ∧ Near (bestR (ent R) R.length).1 (bestR (ent R) R.length).2 ∧ noPos (shf (ent R) (bestR (ent R) R.length).1 (bestR (ent R) R.length).2) R.length = true ∧ bestCyc R = (c : Int) :: L ∧ c < R.length ∧ vx (bestCyc R) 0 = c ∧
    overL (bestF (shf (ent R) (bestR (ent R) R.length).1 (bestR (ent R) R.length).2) R.length) R.length (-1) = bestCyc R := by
  obtain ⟨h1, h2, h3, h4⟩ := cyc_t h
  obtain ⟨n1, n2, hA⟩ := sq_sm h1
  obtain ⟨hbest, hnear, -⟩ := bestR_best n2 hA h2
  have hp := noPos_of_walk n2 hA hnear fun v s w _ _ h3 h4 _ h6 => hbest.2.2.1 v s w h3 h4 h6
  obtain ⟨q1, -, q3, q4⟩ := best_cyc h1 h2
  have hn : nodesB R.length (bestCyc R) = true := by
    unfold cycB at q1
    rw [Bool.and_eq_true, Bool.and_eq_true, Bool.and_eq_true] at q1
    exact q1.1.1.2
  have hlt := vx_lt hn (k := 0) (by omega)
  have hat := nodesB_at hn (k := 0) (by omega)
  cases e : bestCyc R with
  | nil => rw [e] at q3; simp at q3
  | cons y L =>
    rw [e] at hlt hat
    have hy : vx (y :: L) 0 = y.toNat := rfl
    have hy0 : (y :: L).getD 0 0 = y := rfl
    refine ⟨y.toNat, L, h1, h2, hnear, hp, ?_, by rw [hy] at hlt; exact hlt, hy, by rw [best_over n2 (sh_sm hA hnear) hp, ← e]; rfl⟩
    have : (0 : Int) ≤ y := by rw [hy0] at hat; omega
    congr 1
    omega
theorem eig_row {R : List (List Int)} {c : Nat} (hc : c < R.length) (hv : vx (bestCyc R) 0 = c) :
    (stcM (shf (ent R) (bestR (ent R) R.length).1 (bestR (ent R) R.length).2) R.length).getD c [] = eigL R := by
  unfold stcM
  rw [mk_row _ _ _ _ hc]
  unfold eigL
  refine List.map_congr_left fun i hi => ?_
  rw [ent_mk _ _ _ _ _ (List.mem_range.1 hi) hc, hv]
theorem eigRes_len (R : List (List Int)) : (eigRes R).1.length ≤ 10 := by
  unfold eigRes eigOk
  split
  · split
    · next h => exact (isVec_t h).2.1
    · simp
  · simp
theorem eigL_len (R : List (List Int)) : (eigL R).length = R.length := by unfold eigL; simp
end M
namespace V
set_option maxRecDepth 100000
open Go.RowKit
def EPost (r : List Int × (Int × Int) × Int) (w : World) (e : Ending) (w' : World) : Prop :=
  ∃ b m c, e = .returned (.tuple #[.slice b m c, .agg #[.int .i64 r.2.1.1, .int .i64 r.2.1.2], .int .i64 r.2.2]) ∧ Own w' w.heap.size (.slice b m c) r.1 ∧ Below w.heap.size w w'
theorem EPost.nil {r : List Int × (Int × Int) × Int} {c : Int} {w w' : World} (hr : r = ([], (0, 0), c)) (hb : Below w.heap.size w w') : EPost r w (.returned (.tuple #[.slice none 0 0, .agg #[.int .i64 0, .int .i64 0], .int .i64 c])) w' := by
  subst hr; exact ⟨none, 0, 0, rfl, own_nil _ _, hb⟩
theorem keep2' {w0 w1 w2 : World} {b i : Nat} {x : Value} (hb0 : b < w0.heap.size) (h : w1.cell? ⟨b, i, none⟩ = some x ∧ Below w0.heap.size w0 w1) (hb : Below w1.heap.size w1 w2) : w2.cell? ⟨b, i, none⟩ = some x ∧ Below w0.heap.size w0 w2 := by
  have hs := h.2.size
  exact ⟨(hb.cell (p := ⟨b, i, none⟩) (by show b < _; omega)).trans h.1, h.2.trans (hb.mono hs)⟩
theorem keep2 {w0 w1 w2 : World} {b i : Nat} {x : Value} (hb0 : b < w0.heap.size) (h : w1.cell? ⟨b, i, none⟩ = some x ∧ Below w0.heap.size w0 w1) (hb : Below w1.heap.size w1 w2) : w2.cell? ⟨b, i, none⟩ = some x ∧ Below w0.heap.size w0 w2 := by
  have hs := h.2.size
  exact ⟨(hb.cell (p := ⟨b, i, none⟩) (by show b < _; omega)).trans h.1, h.2.trans (hb.mono hs)⟩
end V
end Go.Proofs.Ytnnajlehhfmjfaa

namespace Go.Proofs.Ytnnajlehhfmjfaa
namespace V
set_option maxRecDepth 100000
open Go.RowKit
/-- A ratio, two slices, made one after the other, and a code. -/
def CPost4 (r : (Int × Int) × List Int × List Int × Int) (w : World) (e : Ending) (w' : World) : Prop :=
  ∃ (wm : World) (b : Option Addr) (m c : Nat) (b' : Option Addr) (m' c' : Nat), e = .returned (.tuple #[.agg #[.int .i64 r.1.1, .int .i64 r.1.2], .slice b m c, .slice b' m' c', .int .i64 r.2.2.2]) ∧ Own wm w.heap.size (.slice b' m' c') r.2.2.1 ∧ Below w.heap.size w wm ∧ Own w' wm.heap.size (.slice b m c) r.2.1 ∧ Below wm.heap.size wm w'
theorem CPost4.nil {r : (Int × Int) × List Int × List Int × Int} {c : Int} {w w' : World} (hr : r = ((0, 0), [], [], c)) (hb : Below w.heap.size w w') : CPost4 r w (.returned (.tuple #[.agg #[.int .i64 0, .int .i64 0], .slice none 0 0, .slice none 0 0, .int .i64 c])) w' := by
  subst hr; exact ⟨w, none, 0, 0, none, 0, 0, rfl, own_nil _ _, Below.refl _ _, own_nil _ _, hb⟩
theorem below_set2 {a b : World} {B : Nat} (h : Below B a b) (p : Addr) (hp : p.block < B) (v : Value) : Below B (a.setCell p v) (b.setCell p v) := by
  refine ⟨h.os, h.tape, h.output, by simpa [World.setCell] using h.size, fun k hk => ?_⟩
  have e := h.block k hk
  unfold World.setCell
  simp only [Array.getElem?_modify, e]
theorem low3' {B : Nat} {w1 w2 : World} {P Q : Prop} (h : P ∧ Q ∧ Below B w1 w2) : Below B w1 w2 := h.2.2
theorem keepB {w0 w1 w2 : World} {B b i j : Nat} {x y : Value} (hB : B ≤ w0.heap.size) (h : w1.cell? ⟨b, i, none⟩ = some x ∧ w1.cell? ⟨b, j, none⟩ = some y ∧ Below B w0 w1) (hb : Below w1.heap.size w1 w2) : w2.cell? ⟨b, i, none⟩ = some x ∧ w2.cell? ⟨b, j, none⟩ = some y ∧ Below B w0 w2 := by
  have hs := h.2.2.size
  exact ⟨(hb.cell (p := ⟨b, i, none⟩) (cell_lt h.1)).trans h.1, (hb.cell (p := ⟨b, j, none⟩) (cell_lt h.2.1)).trans h.2.1, h.2.2.trans (hb.mono (by omega))⟩
theorem keepS {w0 w1 : World} {B b i j c k l : Nat} {x y u v : Value} (hc : c ≠ b) (hB : B ≤ c) (h : w1.cell? ⟨b, i, none⟩ = some x ∧ w1.cell? ⟨b, j, none⟩ = some y ∧ Below B w0 w1) :
    ((w1.setCell ⟨c, k, none⟩ u).setCell ⟨c, l, none⟩ v).cell? ⟨b, i, none⟩ = some x ∧ ((w1.setCell ⟨c, k, none⟩ u).setCell ⟨c, l, none⟩ v).cell? ⟨b, j, none⟩ = some y ∧ Below B w0 ((w1.setCell ⟨c, k, none⟩ u).setCell ⟨c, l, none⟩ v) := by
  have e : ((w1.setCell ⟨c, k, none⟩ u).setCell ⟨c, l, none⟩ v).heap[b]? = w1.heap[b]? := (Below.heap_setCell _ ⟨c, l, none⟩ _ b (Ne.symm hc)).trans (Below.heap_setCell _ ⟨c, k, none⟩ _ b (Ne.symm hc))
  exact ⟨(World.cell?_of_block (w := w1) (a := ⟨b, i, none⟩) e).trans h.1, (World.cell?_of_block (w := w1) (a := ⟨b, j, none⟩) e).trans h.2.1, (h.2.2.setCell (p := ⟨c, k, none⟩) hB u).setCell (p := ⟨c, l, none⟩) hB v⟩
set_option maxRecDepth 100000 in
set_option maxHeartbeats 4000000 in
theorem certifyMean (a : Option Addr) (n cap : Nat) (R : List (List Int)) (w : World) (h : Mat w a n R) :
    Calls Try.prog 43 #[.slice a n cap] w (CPost4 (M.certRes R) w) := by
  have HA := Lib.hid h
  have hRn : R.length = n := h.1
  have HB0 : Hid (Below w.heap.size w (w.alloc (.cells #[.int .i64 0, .int .i64 0] 27))) := b_alloc _ _
  by_cases hc : (M.cycMeanRes R).2 = 0
  · obtain ⟨c, L, hs, hcyc, hnear, hp, hq, hcl, hvx, hov⟩ := M.eig_t hc
    have hcm := (M.cyc_t hc).2.2.2
    rw [hRn] at hcyc hnear hp hcl hov hcm
    obtain ⟨hr, n1, n2, hsm⟩ := sq_parts h hs
    have HR := Lib.hid hr
    have HSm := Lib.hid hsm
    obtain ⟨r, hrr⟩ : ∃ r, r = M.bestR (M.ent R) n := ⟨_, rfl⟩
    rw [← hrr] at hnear hp hov hcm
    have HNear := Lib.hid hnear
    have HP := Lib.hid hp
    have HOv := Lib.hid hov
    have HCm := Lib.hid hcm
    obtain ⟨r1, r2⟩ := r
    have HBm : Hid (∀ i j, i < n → j < n → M.Sm 1000001000000 (M.bestF (M.shf (M.ent R) r1 r2) n i j)) := fun i j hi hj => by
      unfold M.bestF
      split
      · exact M.sh_sm HSm.out HNear.out i j hi hj
      · exact .inl rfl
    obtain ⟨p, hpp⟩ : ∃ p, p = M.potRes R r1 r2 := ⟨_, rfl⟩
    have HPp := Lib.hid hpp.symm
    have hE : M.certRes R = if p.2 = 0 then ((r1, r2), M.bestCyc R, p.1, 0) else ((0, 0), [], [], p.2) := by
      unfold M.certRes; rw [if_pos hc, hcm, hpp]
    have HE := Lib.hid hE
    obtain ⟨pl, pc⟩ := p
    generalize M.bestCyc R = q at *
    clear h hc hs hcyc hnear hp hq hvx hov hcm hr hsm hrr hpp hE hRn hcl
    by_cases hpc : pc = 0
    · subst hpc
      go_enter Try.func43, Try.ntmps43
      go_wp2_with fail
      refine (cycleMean _ _ _ R _ (HA.out.below HB0.out)).mono ?_
      rintro e w1 ⟨rfl, hb⟩
      rw [HCm.out]
      have HB1 := Lib.hid hb
      clear hb
      obtain ⟨wb, hwb⟩ : ∃ x, x = w1.alloc (rbox r1 r2) := ⟨_, rfl⟩
      have HX : Hid (Boxed w1 wb r1 r2) := by show Boxed _ _ _ _; rw [hwb]; exact boxed _ _ _
      have HBx := Lib.hid (HB1.out.trans (HX.out.below.mono HB1.out.size))
      have HBy := Lib.hid (HB0.out.trans (HBx.out.mono HB0.out.size))
      go_wp2_with fail
      change Calls _ _ _ (w1.alloc (rbox r1 r2)) _
      rw [← hwb]
      clear hwb
      refine (potentialOf _ _ _ R r1 r2 _ (HA.out.below HBy.out)).mono ?_
      rintro e w2 ⟨b2, m2, c2, rfl, ho, hb⟩
      rw [HPp.out] at ho ⊢
      have HO2 := Lib.hid ho
      have HB2 := Lib.hid hb
      have HBz := Lib.hid (HBy.out.trans (hb.mono HBy.out.size))
      obtain ⟨p0, p1⟩ := HX.out.cells hb
      clear ho hb
      go_wp2
      have HBw := Lib.hid (HBx.out.trans (HB2.out.mono HBx.out.size))
      have hzq : w1.heap.size < w2.heap.size := by have := HB2.out.size; have := HX.out.size; omega
      have hwz : w.heap.size ≤ w2.heap.size := HBz.out.size
      have hwne : w.heap.size ≠ w1.heap.size := by have := HB1.out.size; simp at this; omega
      go_region_held3 (fun w' => w'.cell? ⟨w1.heap.size, 0, none⟩ = some (.int .i64 r1) ∧ w'.cell? ⟨w1.heap.size, 1, none⟩ = some (.int .i64 r2) ∧ Below w.heap.size w2 w') (first | exact ⟨p0, p1, (Below.refl _ _).drew⟩ | exact keepB hwz ‹_ ∧ _ ∧ Below _ _ _› hb | exact keepS hwne (Nat.le_refl _) ‹_ ∧ _ ∧ Below _ _ _›) (first | (go_at_call 62; refine (bestArcs _ _ _ R r1 r2 _ ?hm HR.out n1 n2 HSm.out HNear.out HP.out).mono ?_; (case hm => exact HA.out.below (HBz.out.trans (V.low3' ‹_ ∧ _ ∧ Below _ _ _›))); rintro e w3 ⟨b3, c3, rfl, ho, hb⟩; have HSq3 : Hid (Sq w3 b3 n (M.mk n n (M.bestF (M.shf (M.ent R) r1 r2) n))) := ⟨ho.mat, rect_mk _ _ _, fun i j hi hj => (by rw [M.ent_mk _ _ _ _ _ hi hj]; exact HBm.out i j hi hj), n1, n2⟩; have HB3 : Hid (Below w2.heap.size w2 w3) := (by first | exact hb | exact ((Below.refl w2.heap.size w2).drew).trans hb | exact (below_drewN (Below.refl w2.heap.size w2) _).trans hb); clear ho) | (go_at_call 61; refine (smallestCycle0 _ _ _ (M.mk n n (M.bestF (M.shf (M.ent R) r1 r2) n)) _ ?hm2).mono ?_; (case hm2 => exact HSq3.out); rintro e w4 ⟨b4, n4, c4, rfl, ho, hb⟩; rw [M.over_congr (A := M.bestF (M.shf (M.ent R) r1 r2) n) n2 HBm.out fun i j hi hj => M.ent_mk _ _ _ _ _ hi hj, HOv.out] at ho; have HO4 := Lib.hid ho; have HB4 := Lib.hid (HB3.out.trans (hb.mono HB3.out.size)); have hb8 := HBw.out.trans (HB4.out.mono HBw.out.size); have hz8 := hb8.size; simp at hz8; have HB8 := Lib.hid hb8; obtain ⟨hcc, hff⟩ := bcell hb8; have z1 : w.heap.size < w4.heap.size := (by omega); clear ho hb8))
      all_goals (try go_wp2)
      all_goals
        have hlt2 : w.heap.size < w2.heap.size := by have := HBx.out.size; have := HB2.out.size; simp at *; omega
        have hHE : M.certRes R = ((r1, r2), q, pl, 0) := HE.out
        refine bodyPost_ret (v := .tuple #[.agg #[.int .i64 r1, .int .i64 r2], .slice b4 n4 c4, .slice b2 m2 c2, .int .i64 0]) (by simp [results, Try.results43, go_sem, z1, hcc]) rfl ?_
        rw [hHE]
        refine ⟨(w2.setCell ⟨w.heap.size, 0, none⟩ (.int .i64 r1)).setCell ⟨w.heap.size, 1, none⟩ (.int .i64 r2), b4, n4, c4, b2, m2, c2, rfl, ?_, ?_, ?_, ?_⟩
        · refine (HO2.out.keep fun k k1 _ => ?_).mono HBy.out.size
          have k2 : w.heap.size ≠ k := by have := HBx.out.size; simp at this; omega
          exact (Below.heap_setCell _ _ _ k k2.symm).trans (Below.heap_setCell _ _ _ k k2.symm)
        · exact (HBz.out.setCell (p := ⟨w.heap.size, 0, none⟩) (Nat.le_refl _) _).setCell (p := ⟨w.heap.size, 1, none⟩) (Nat.le_refl _) _
        · refine (HO4.out.keep fun k k1 _ => ?_).mono ?_
          · have k2 : w.heap.size ≠ k := by have := HB3.out.size; omega
            exact (Below.heap_setCell _ _ _ k k2.symm).trans (Below.heap_setCell _ _ _ k k2.symm)
          · have := HB3.out.size; simpa [World.setCell] using this
        · have e := below_set2 (below_set2 HB4.out ⟨w.heap.size, 0, none⟩ hlt2 (.int .i64 r1)) ⟨w.heap.size, 1, none⟩ hlt2 (.int .i64 r2)
          simpa [World.setCell] using e
    · have HEE : Hid (M.certRes R = ((0, 0), [], [], pc)) := HE.out.trans (if_neg hpc)
      have hpb : (pc != 0) = true := by simpa using hpc
      go_enter Try.func43, Try.ntmps43
      go_wp2_with fail
      refine (cycleMean _ _ _ R _ (HA.out.below HB0.out)).mono ?_
      rintro e w1 ⟨rfl, hb⟩
      rw [HCm.out]
      have HB1 := Lib.hid hb
      clear hb
      obtain ⟨wb, hwb⟩ : ∃ x, x = w1.alloc (rbox r1 r2) := ⟨_, rfl⟩
      have HX : Hid (Boxed w1 wb r1 r2) := by show Boxed _ _ _ _; rw [hwb]; exact boxed _ _ _
      have HBx := Lib.hid (HB1.out.trans (HX.out.below.mono HB1.out.size))
      have HBy := Lib.hid (HB0.out.trans (HBx.out.mono HB0.out.size))
      go_wp2_with fail
      change Calls _ _ _ (w1.alloc (rbox r1 r2)) _
      rw [← hwb]
      clear hwb
      refine (potentialOf _ _ _ R r1 r2 _ (HA.out.below HBy.out)).mono ?_
      rintro e w2 ⟨b2, m2, c2, rfl, ho, hb⟩
      rw [HPp.out] at ho ⊢
      have hb8 := HBx.out.trans (hb.mono HBx.out.size)
      have hz := hb8.size
      simp at hz
      obtain ⟨hcc, hff⟩ := bcell hb8
      have z1 : w.heap.size < w2.heap.size := by omega
      clear ho hb
      go_wp2
      exact bodyPost_ret (v := .tuple #[.agg #[.int .i64 0, .int .i64 0], .slice none 0 0, .slice none 0 0, .int .i64 pc]) (by simp [results, Try.results43, go_sem, z1, hcc]) rfl (CPost4.nil HEE.out (bel1s hb8))
  · have HE : Hid (M.certRes R = ((0, 0), [], [], (M.cycMeanRes R).2)) := by show _ = _; unfold M.certRes; rw [if_neg hc]
    obtain ⟨r, hr⟩ : ∃ r, r = M.cycMeanRes R := ⟨_, rfl⟩
    rw [← hr] at hc HE
    have HR := Lib.hid hr.symm
    obtain ⟨⟨r1, r2⟩, r3⟩ := r
    have hr3 : (r3 != 0) = true := by simpa using hc
    clear h hc hr hRn
    go_enter Try.func43, Try.ntmps43
    go_wp2_with fail
    refine (cycleMean _ _ _ R _ (HA.out.below HB0.out)).mono ?_
    rintro e w1 ⟨rfl, hb⟩
    rw [HR.out]
    have hz := hb.size
    simp at hz
    obtain ⟨hcc, hff⟩ := bcell hb
    have z1 : w.heap.size < w1.heap.size := by omega
    go_wp2
    exact bodyPost_ret (v := .tuple #[.agg #[.int .i64 0, .int .i64 0], .slice none 0 0, .slice none 0 0, .int .i64 r3]) (by simp [results, Try.results43, go_sem, z1, hcc]) rfl (CPost4.nil HE.out ((bel1s hb).alloc (bel1s hb).size _))
end V
end Go.Proofs.Ytnnajlehhfmjfaa

namespace Go.Proofs.Ytnnajlehhfmjfaa
namespace V
set_option maxRecDepth 100000
open Go.RowKit
set_option maxRecDepth 100000 in
set_option maxHeartbeats 4000000 in
theorem sCertifyMean (a : Option Addr) (n cap : Nat) (R : List (List Int)) (w : World) (h : Mat w a n R) :
    Calls Try.prog 42 #[.slice a n cap] w (CPost4 (M.certRes R) w) := by
  have HA := Lib.hid h
  have hRn : R.length = n := h.1
  have HB0 : Hid (Below w.heap.size w (w.alloc (.cells #[.int .i64 0, .int .i64 0] 27))) := b_alloc _ _
  by_cases hc : (M.cycMeanRes R).2 = 0
  · obtain ⟨c, L, hs, hcyc, hnear, hp, hq, hcl, hvx, hov⟩ := M.eig_t hc
    have hcm := (M.cyc_t hc).2.2.2
    rw [hRn] at hcyc hnear hp hcl hov hcm
    obtain ⟨hr, n1, n2, hsm⟩ := sq_parts h hs
    have HR := Lib.hid hr
    have HSm := Lib.hid hsm
    have HSs := Lib.hid hs
    obtain ⟨q, hq0⟩ : ∃ q, q = M.bestCyc R := ⟨_, rfl⟩
    have HBq : Hid (M.best2 R = q) := by show _ = _; unfold M.best2; rw [hRn, hcyc, if_pos rfl, hq0]
    obtain ⟨r, hrr⟩ : ∃ r, r = M.bestR (M.ent R) n := ⟨_, rfl⟩
    rw [← hrr] at hnear hp hov hcm
    have HNear := Lib.hid hnear
    have HP := Lib.hid hp
    have HOv := Lib.hid hov
    have HCm := Lib.hid hcm
    obtain ⟨r1, r2⟩ := r
    have HBm : Hid (∀ i j, i < n → j < n → M.Sm 1000001000000 (M.bestF (M.shf (M.ent R) r1 r2) n i j)) := fun i j hi hj => by
      unfold M.bestF
      split
      · exact M.sh_sm HSm.out HNear.out i j hi hj
      · exact .inl rfl
    obtain ⟨p, hpp⟩ : ∃ p, p = M.potRes R r1 r2 := ⟨_, rfl⟩
    have HPp := Lib.hid hpp.symm
    have hE : M.certRes R = if p.2 = 0 then ((r1, r2), M.bestCyc R, p.1, 0) else ((0, 0), [], [], p.2) := by
      unfold M.certRes; rw [if_pos hc, hcm, hpp]
    have HE := Lib.hid hE
    obtain ⟨pl, pc⟩ := p
    rw [← hq0] at HE HOv
    clear hq0 h hc hs hcyc hnear hp hq hvx hov hcm hr hsm hrr hpp hE hRn hcl
    by_cases hpc : pc = 0
    · subst hpc
      go_enter Try.func42, Try.ntmps42
      go_wp2_with fail
      refine (sCycleMean _ _ _ R _ (HA.out.below HB0.out)).mono ?_
      rintro e w1 ⟨rfl, hb⟩
      rw [HCm.out]
      have HB1 := Lib.hid hb
      clear hb
      obtain ⟨wb, hwb⟩ : ∃ x, x = w1.alloc (rbox r1 r2) := ⟨_, rfl⟩
      have HX : Hid (Boxed w1 wb r1 r2) := by show Boxed _ _ _ _; rw [hwb]; exact boxed _ _ _
      have HBx := Lib.hid (HB1.out.trans (HX.out.below.mono HB1.out.size))
      have HBy := Lib.hid (HB0.out.trans (HBx.out.mono HB0.out.size))
      go_wp2_with fail
      change Calls _ _ _ (w1.alloc (rbox r1 r2)) _
      rw [← hwb]
      clear hwb
      refine (sPotentialOf _ _ _ R r1 r2 _ (HA.out.below HBy.out)).mono ?_
      rintro e w2 ⟨b2, m2, c2, rfl, ho, hb⟩
      rw [HPp.out] at ho ⊢
      have HO2 := Lib.hid ho
      have HB2 := Lib.hid hb
      have HBz := Lib.hid (HBy.out.trans (hb.mono HBy.out.size))
      obtain ⟨p0, p1⟩ := HX.out.cells hb
      clear ho hb
      go_wp2_with fail
      refine (sBest _ _ _ R _ (HA.out.below HBz.out) HSs.out).mono ?_
      rintro e w4 ⟨b4, n4, c4, rfl, ho, hb⟩
      rw [HBq.out] at ho
      have HO4 := Lib.hid ho
      have HB4 := Lib.hid hb
      have HB3 := Lib.hid (Below.refl w2.heap.size w2)
      have hb8 := HBx.out.trans ((HB2.out.trans (hb.mono HB2.out.size)).mono HBx.out.size)
      have hz8 := hb8.size
      simp at hz8
      obtain ⟨hcc, hff⟩ := bcell hb8
      have z1 : w.heap.size < w4.heap.size := by omega
      obtain ⟨p2, p3⟩ := HX.out.cells (HB2.out.trans (hb.mono HB2.out.size))
      clear ho hb hb8 p0 p1
      go_wp2
      all_goals
        have hlt2 : w.heap.size < w2.heap.size := by have := HBx.out.size; have := HB2.out.size; simp at *; omega
        have hHE : M.certRes R = ((r1, r2), q, pl, 0) := HE.out
        refine bodyPost_ret (v := .tuple #[.agg #[.int .i64 r1, .int .i64 r2], .slice b4 n4 c4, .slice b2 m2 c2, .int .i64 0]) (by simp [results, Try.results42, go_sem, z1, hcc]) rfl ?_
        rw [hHE]
        refine ⟨(w2.setCell ⟨w.heap.size, 0, none⟩ (.int .i64 r1)).setCell ⟨w.heap.size, 1, none⟩ (.int .i64 r2), b4, n4, c4, b2, m2, c2, rfl, ?_, ?_, ?_, ?_⟩
        · refine (HO2.out.keep fun k k1 _ => ?_).mono HBy.out.size
          have k2 : w.heap.size ≠ k := by have := HBx.out.size; simp at this; omega
          exact (Below.heap_setCell _ _ _ k k2.symm).trans (Below.heap_setCell _ _ _ k k2.symm)
        · exact (HBz.out.setCell (p := ⟨w.heap.size, 0, none⟩) (Nat.le_refl _) _).setCell (p := ⟨w.heap.size, 1, none⟩) (Nat.le_refl _) _
        · refine (HO4.out.keep fun k k1 _ => ?_).mono ?_
          · have k2 : w.heap.size ≠ k := by have := HB3.out.size; omega
            exact (Below.heap_setCell _ _ _ k k2.symm).trans (Below.heap_setCell _ _ _ k k2.symm)
          · simp [World.setCell]
        · have e := below_set2 (below_set2 HB4.out ⟨w.heap.size, 0, none⟩ hlt2 (.int .i64 r1)) ⟨w.heap.size, 1, none⟩ hlt2 (.int .i64 r2)
          simpa [World.setCell] using e
    · have HEE : Hid (M.certRes R = ((0, 0), [], [], pc)) := HE.out.trans (if_neg hpc)
      have hpb : (pc != 0) = true := by simpa using hpc
      go_enter Try.func42, Try.ntmps42
      go_wp2_with fail
      refine (sCycleMean _ _ _ R _ (HA.out.below HB0.out)).mono ?_
      rintro e w1 ⟨rfl, hb⟩
      rw [HCm.out]
      have HB1 := Lib.hid hb
      clear hb
      obtain ⟨wb, hwb⟩ : ∃ x, x = w1.alloc (rbox r1 r2) := ⟨_, rfl⟩
      have HX : Hid (Boxed w1 wb r1 r2) := by show Boxed _ _ _ _; rw [hwb]; exact boxed _ _ _
      have HBx := Lib.hid (HB1.out.trans (HX.out.below.mono HB1.out.size))
      have HBy := Lib.hid (HB0.out.trans (HBx.out.mono HB0.out.size))
      go_wp2_with fail
      change Calls _ _ _ (w1.alloc (rbox r1 r2)) _
      rw [← hwb]
      clear hwb
      refine (sPotentialOf _ _ _ R r1 r2 _ (HA.out.below HBy.out)).mono ?_
      rintro e w2 ⟨b2, m2, c2, rfl, ho, hb⟩
      rw [HPp.out] at ho ⊢
      have hb8 := HBx.out.trans (hb.mono HBx.out.size)
      have hz := hb8.size
      simp at hz
      obtain ⟨hcc, hff⟩ := bcell hb8
      have z1 : w.heap.size < w2.heap.size := by omega
      clear ho hb
      go_wp2
      exact bodyPost_ret (v := .tuple #[.agg #[.int .i64 0, .int .i64 0], .slice none 0 0, .slice none 0 0, .int .i64 pc]) (by simp [results, Try.results42, go_sem, z1, hcc]) rfl (CPost4.nil HEE.out (bel1s hb8))
  · have HE : Hid (M.certRes R = ((0, 0), [], [], (M.cycMeanRes R).2)) := by show _ = _; unfold M.certRes; rw [if_neg hc]
    obtain ⟨r, hr⟩ : ∃ r, r = M.cycMeanRes R := ⟨_, rfl⟩
    rw [← hr] at hc HE
    have HR := Lib.hid hr.symm
    obtain ⟨⟨r1, r2⟩, r3⟩ := r
    have hr3 : (r3 != 0) = true := by simpa using hc
    clear h hc hr hRn
    go_enter Try.func42, Try.ntmps42
    go_wp2_with fail
    refine (sCycleMean _ _ _ R _ (HA.out.below HB0.out)).mono ?_
    rintro e w1 ⟨rfl, hb⟩
    rw [HR.out]
    have hz := hb.size
    simp at hz
    obtain ⟨hcc, hff⟩ := bcell hb
    have z1 : w.heap.size < w1.heap.size := by omega
    go_wp2
    exact bodyPost_ret (v := .tuple #[.agg #[.int .i64 0, .int .i64 0], .slice none 0 0, .slice none 0 0, .int .i64 r3]) (by simp [results, Try.results42, go_sem, z1, hcc]) rfl (CPost4.nil HE.out ((bel1s hb).alloc (bel1s hb).size _))
theorem M.certRes_len (R : List (List Int)) : (M.certRes R).2.1.length ≤ 10 ∧ (M.certRes R).2.2.1.length ≤ 10 := by
  unfold M.certRes
  split
  · next h =>
    split
    · exact ⟨by obtain ⟨h1, h2, -⟩ := M.cyc_t h; exact (M.best_cyc h1 h2).2.2.2, M.potRes_len R _ _⟩
    · exact ⟨by simp, by simp⟩
  · exact ⟨by simp, by simp⟩
end V
end Go.Proofs.Ytnnajlehhfmjfaa

/- Texts laid together: Clo5, Fix1, Pot1, Cms, Cmm, Ndp. -/
import Derived.Test.YtihpbgjiohnekabGreatQz9
import Derived.Test.YtihpbgjiohnekabGreatQz5
import Derived.Test.YtihpbgjiohnekabGreatQz7
import Derived.Test.YtihpbgjiohnekabGreatQz8
import Derived.Deep.RegionWith
import Derived.Deep.RegionHeld3
import Derived.Test.YtihpbgjiohnekabGreatQz6
import Derived.Test.YtihpbgjiohnekabGreatQz4
import Derived.StillTailTactics
import Derived.Lib.SlicesCompact
set_option linter.unusedSimpArgs false
set_option linter.unusedVariables false
set_option linter.unusedSectionVars false
namespace Go.Proofs.YtihpbgjiohnekabGreat.V
open Go.RowKit

set_option maxRecDepth 100000 in
set_option maxHeartbeats 400000 in
theorem sResult (a : Option Addr) (n cap : Nat) (R : List (List Int)) (b : Bool) (hb : M.isMat R = b) (w : World) (h : Mat w a n R) :
    Calls Tryz.prog 128 #[.slice a n cap] w fun e w' => e = .returned (if b then .tuple #[.slice a n cap, .int .i64 0] else .tuple #[.slice none 0 0, .int .i64 3]) ∧ ∃ q, w' = w.drewN q := by
  have HA := Lib.hid h
  have HB := Lib.hid hb
  clear h hb
  cases b with
  | true =>
    go_enter Tryz.func128, Tryz.ntmps128
    go_wp2_with (go_at_call 82; refine (sIsMatrix_b _ _ _ R _ true HB.out HA.out).mono ?_; rintro e w' ⟨rfl, q, rfl⟩)
    go_ret2
    exact ⟨rfl, _, rfl⟩
  | false =>
    go_enter Tryz.func128, Tryz.ntmps128
    go_wp2_with (go_at_call 82; refine (sIsMatrix_b _ _ _ R _ false HB.out HA.out).mono ?_; rintro e w' ⟨rfl, q, rfl⟩)
    go_ret2
    exact ⟨rfl, _, rfl⟩


end Go.Proofs.YtihpbgjiohnekabGreat.V

namespace Go.Proofs.YtihpbgjiohnekabGreat.V
open Go.RowKit

/-- What the least fixed point of a matrix and a vector that fit is. -/
def M.lfpL (R : List (List Int)) (n : Nat) (l : List Int) : List Int × Int := if M.noPos (M.ent R) n then (if M.isVec (M.applyM (M.starM R n) l) then (M.applyM (M.starM R n) l, 0) else ([], 3)) else ([], 5)
set_option maxRecDepth 100000 in
set_option maxHeartbeats 1000000 in
theorem leastFixedPoint (a : Option Addr) (n cap : Nat) (R : List (List Int)) (a' : Option Addr) (cap' : Nat) (l : List Int) (w : World) (h : Sq w a n R) (h' : Ints .i64 w a' n l) (hlb : ∀ k, k < n → M.Big (l.getD k 0)) :
    Calls Tryz.prog 72 #[.slice a n cap, .slice a' n cap'] w (VRes (M.lfpL R n l) w) := by
  have HQ := Lib.hid h
  have HI := Lib.hid h'
  have HSm := Lib.hid h.2.2.1
  obtain ⟨-, -, -, n1, n2⟩ := h
  have HLB := Lib.hid hlb
  clear hlb h'
  obtain ⟨r, hr⟩ : ∃ r, r = M.starL R n := ⟨_, rfl⟩
  have HC : Calls Tryz.prog 141 #[.slice a n cap] w (CPost r w) := by rw [hr]; exact starOf _ _ _ _ _ HQ.out
  by_cases hp : M.noPos (M.ent R) n = true
  · have hr2 : r = (M.starM R n, true) := by rw [hr]; unfold M.starL; rw [hp]; rfl
    have HSB : Hid (∀ i j, i < n → j < n → M.Big (M.ent (M.starM R n) i j)) := fun i j hi hj => M.star_big n2 HSm.out hp hi hj
    obtain ⟨b, hb⟩ : ∃ b, b = M.isVec (M.applyM (M.starM R n) l) := ⟨_, rfl⟩
    have HM := Lib.hid hb.symm
    have HE : Hid (M.lfpL R n l = if b then (M.applyM (M.starM R n) l, 0) else ([], 3)) := by
      show _ = _; rw [hb]; unfold M.lfpL; rw [hp]; rfl
    clear hr hp hb
    subst hr2
    cases b with
    | true =>
      go_enter Tryz.func72, Tryz.ntmps72
      go_wp2_with fail
      refine HC.mono ?_
      rintro e w1 ⟨a2, m, cap2, rfl, hO, hb⟩
      obtain rfl : m = n := by have := hO.len; simpa [M.starM] using this
      have HO := Lib.hid hO
      have HB := Lib.hid hb
      clear hO hb
      go_wp2_with fail
      refine (timesColumn _ _ _ _ _ _ _ l _ HO.out.mat (HI.out.below HB.out) (rect_mk _ _ _) HSB.out HLB.out n1 n2 n1 n2).mono ?_
      rintro e w2 ⟨b3, c3, rfl, hx, hb⟩
      have HX := Lib.hid (hx.mono HB.out.size)
      have HB2 := Lib.hid (bnext HB.out hb)
      clear hx hb
      go_wp2_with fail
      refine (checkedVector_t _ _ _ _ _ HM.out HX.out.ints').mono ?_
      rintro e w' ⟨rfl, rfl⟩
      go_wp2
      go_ret2
      rw [HE.out]
      exact ⟨_, _, _, rfl, HX.out, HB2.out⟩
    | false =>
      go_enter Tryz.func72, Tryz.ntmps72
      go_wp2_with fail
      refine HC.mono ?_
      rintro e w1 ⟨a2, m, cap2, rfl, hO, hb⟩
      obtain rfl : m = n := by have := hO.len; simpa [M.starM] using this
      have HO := Lib.hid hO
      have HB := Lib.hid hb
      clear hO hb
      go_wp2_with fail
      refine (timesColumn _ _ _ _ _ _ _ l _ HO.out.mat (HI.out.below HB.out) (rect_mk _ _ _) HSB.out HLB.out n1 n2 n1 n2).mono ?_
      rintro e w2 ⟨b3, c3, rfl, hx, hb⟩
      have HX := Lib.hid (hx.mono HB.out.size)
      have HB2 := Lib.hid (bnext HB.out hb)
      clear hx hb
      go_wp2_with fail
      refine (checkedVector_f _ _ _ _ _ HM.out HX.out.ints').mono ?_
      rintro e w' ⟨rfl, rfl⟩
      go_wp2
      go_ret2
      exact VRes.nil HE.out HB2.out
  · simp only [Bool.not_eq_true] at hp
    have hr2 : r = ([], false) := by rw [hr]; unfold M.starL; rw [hp]; rfl
    have HE : Hid (M.lfpL R n l = ([], 5)) := by
      show _ = _; unfold M.lfpL; rw [hp]; rfl
    clear hr hp
    subst hr2
    go_enter Tryz.func72, Tryz.ntmps72
    go_wp2_with (go_at_call 141; refine HC.mono ?_; rintro e w1 ⟨a2, m, cap2, rfl, hO, hb⟩; have HB := Lib.hid hb; clear hO hb)
    go_ret2
    exact VRes.nil HE.out HB.out

end Go.Proofs.YtihpbgjiohnekabGreat.V

namespace Go.Proofs.YtihpbgjiohnekabGreat
namespace M
theorem noPos_mk (n : Nat) (f : Nat → Nat → Int) : noPos (ent (mk n n f)) n = noPos f n := noPos_congr fun _ _ hi hj => ent_mk _ _ _ _ _ hi hj
theorem starM_mk (n : Nat) (f : Nat → Nat → Int) : starM (mk n n f) n = mk n n (starF f n) := mk_congr fun _ hi _ hj => starF_congr (fun _ _ hi hj => ent_mk _ _ _ _ _ hi hj) hi hj
def finV (x : Int) : Bool := isFin x
theorem zeros_len (n : Nat) : (zerosL n).length = n := by simp [zerosL]
theorem zeros_made (n : Nat) : ((List.range n).map fun _ => (0 : Int)) = zerosL n := by
  unfold zerosL
  apply List.ext_getElem
  · simp
  · intro i h1 h2; simp
end M
namespace V
open Go.RowKit
theorem sq_shift {w : World} {a : Option Addr} {n : Nat} {f : Nat → Nat → Int} (h : Mat w a n (M.mk n n f)) (hf : ∀ i j, i < n → j < n → M.Sm 1000001000000 (f i j)) (n1 : 1 ≤ n) (n2 : n ≤ 10) : Sq w a n (M.mk n n f) :=
  ⟨h, rect_mk _ _ _, fun i j hi hj => by rw [M.ent_mk _ _ _ _ _ hi hj]; exact hf i j hi hj, n1, n2⟩
set_option maxRecDepth 100000 in
set_option maxHeartbeats 400000 in
theorem sAllF (a : Option Addr) (n cap : Nat) (l : List Int) (w : World) (h : Ints .i64 w a n l) :
    Calls Tryz.prog 79 #[.slice a n cap, .bool true] w fun e w' => e = .returned (.bool (l.all M.isFin)) ∧ w = w' := by
  obtain ⟨hl, hm, hr⟩ := h
  unfold maxLen at hm
  have HL := Lib.hid hl
  clear hl
  go_enter Tryz.func79, Tryz.ntmps79
  go_wp2
  go_loop [5] (fun i => ∃ k : Nat, k ≤ n ∧ i = .int .i64 k ∧ Hid ((l.take k).all M.isFin = true)) (fun i => n - (intOf i).toNat)
  case atStart => exact ⟨0, Nat.zero_le _, rfl, rfl⟩
  case round =>
    obtain ⟨k, hk, rfl, HA⟩ := hrel
    by_cases hlt : k < n
    · rcases hr with h0 | ⟨b, off, rfl, hbl, hc⟩
      · omega
      · have hck := hc k hlt
        have hsn := M.take_snoc l k (by have := HL.out; omega)
        obtain ⟨x, hx⟩ : ∃ x, x = l.getD k 0 := ⟨_, rfl⟩
        rw [← hx] at hck hsn
        have HX := Lib.hid hx
        have HS := Lib.hid hsn
        clear hc hx hsn
        by_cases hb : x = -1000000000000000
        · have HF : Hid (l.all M.isFin = false) := M.all_false _ l k (by have := HL.out; omega) (by rw [← HX.out, hb]; rfl)
          have hv : M.isVal x = true := by rw [hb]; exact M.bot_val
          subst hb
          go_wp2_with (first | (go_at_call 152; refine (sIsValue _ _).mono ?_; rintro e w' ⟨rfl, rfl⟩))
          go_ret
          exact ⟨retB (by rw [HF.out]), rfl⟩
        · have hb2 : (x == -1000000000000000) = false := by simpa using hb
          have hvf : M.isVal x = M.isFin x := by unfold M.isVal; rw [decide_eq_false hb, Bool.false_or]
          by_cases hv : M.isVal x = true
          · have HA2 : Hid ((l.take (k + 1)).all M.isFin = true) := by show _ = _; rw [HS.out, M.all_snoc, HA.out, ← hvf, hv]; rfl
            clear hvf
            go_wp2_with (first | (go_at_call 152; refine (sIsValue _ _).mono ?_; rintro e w' ⟨rfl, rfl⟩))
            go_round
            case rel => exact ⟨k + 1, by omega, by go_num, HA2⟩
            case measure => simp [intOf]; omega
          · simp only [Bool.not_eq_true] at hv
            have HF : Hid (l.all M.isFin = false) := M.all_false _ l k (by have := HL.out; omega) (by rw [← HX.out, ← hvf, hv])
            clear hvf
            go_wp2_with (first | (go_at_call 152; refine (sIsValue _ _).mono ?_; rintro e w' ⟨rfl, rfl⟩))
            go_ret
            exact ⟨retB (by rw [HF.out]), rfl⟩
    · have hkn : k = n := by omega
      subst hkn
      have HT : Hid (l.take k = l) := M.take_all l k (by have := HL.out; omega)
      clear hr
      go_wp2
      go_ret
      exact ⟨retB (by rw [← HT.out, HA.out]), rfl⟩
theorem sAllF_b (a : Option Addr) (n cap : Nat) (l : List Int) (b : Bool) (hb : l.all M.isFin = b) (w : World) (h : Ints .i64 w a n l) :
    Calls Tryz.prog 79 #[.slice a n cap, .bool true] w fun e w' => e = .returned (.bool b) ∧ w = w' := by subst hb; exact sAllF a n cap l w h
/-- The plain answer, by the shifted matrix. -/
theorem pot_lfp {R : List (List Int)} {n : Nat} {num den : Int} (hn : R.length = n) (hs : M.sqB R = true) (hr : M.isRat num den = true) : M.potRes R num den = M.lfpL (M.mk n n (M.shf (M.ent R) num den)) n (M.zerosL n) := by
  subst hn
  unfold M.potRes M.lfpL
  rw [hs, hr, M.noPos_mk]
  rfl
set_option maxRecDepth 100000 in
set_option maxHeartbeats 2000000 in
theorem potentialOf (a : Option Addr) (n cap : Nat) (R : List (List Int)) (num den : Int) (w0 : World) (h : Mat w0 a n R) :
    Calls Tryz.prog 12 #[.slice a n cap, .agg #[.int .i64 num, .int .i64 den]] w0 (VRes (M.potRes R num den) w0) := by
  obtain ⟨w, hwd⟩ : ∃ w, w = w0.alloc (rbox num den) := ⟨_, rfl⟩
  have HX : Hid (Boxed w0 w num den) := by show Boxed _ _ _ _; rw [hwd]; exact boxed _ _ _
  have HA : Hid (Mat w a n R) := h.below HX.out.below
  have HZ := Lib.hid HX.out.size
  obtain ⟨c0, c1⟩ := HX.out.cells (Below.refl _ _)
  by_cases hs : M.sqB R = true
  · have HS := Lib.hid hs
    by_cases hr : M.isRat num den = true
    · have HR := Lib.hid hr
      obtain ⟨r1, n1, n2, r4⟩ := sq_parts HA.out hs
      have HQ := Lib.hid r1
      have HSm := Lib.hid r4
      have HE : Hid (M.potRes R num den = M.lfpL (M.mk n n (M.shf (M.ent R) num den)) n (M.zerosL n)) := pot_lfp HA.out.1 hs hr
      have HSh : Hid (∀ i j, i < n → j < n → M.Sm 1000001000000 (M.shf (M.ent R) num den i j)) := fun i j hi hj => M.shf_sm (M.near_rat hr) (r4 i j hi hj)
      have HLB : Hid (∀ k, k < n → M.Big ((M.zerosL n).getD k 0)) := fun k _ => by rw [M.zeros_at]; exact .inr (by omega)
      obtain ⟨P, hP⟩ : ∃ P, P = M.mk n n (M.shf (M.ent R) num den) := ⟨_, rfl⟩
      have HP := Lib.hid hP
      obtain ⟨z, hzd⟩ : ∃ z, z = M.zerosL n := ⟨_, rfl⟩
      have HZd : Hid (((List.range n).map fun _ => (0 : Int)) = z) := by show _ = _; rw [hzd]; exact M.zeros_made n
      rw [← hP, ← hzd] at HE
      rw [← hzd] at HLB
      have hmk := run_make_row' (P := Tryz.prog) 29 2 (.int .i64 0) 8 Tryz.underlying29 info64 rfl .i64 .i64 n (by omega) (by omega)
      clear h hs hr r1 r4 hP hzd
      go_enter Tryz.func12, Tryz.ntmps12
      go_wp2_with fail
      simp only [← hwd] at *
      clear hwd
      refine (isSquare_b _ _ _ R _ true HS.out HA.out).mono ?_
      rintro e w' ⟨rfl, rfl⟩
      go_wp2_with fail
      refine (isRatio_b _ _ true HR.out _).mono ?_
      rintro e w1 ⟨rfl, hb1⟩
      have HB1 := Lib.hid hb1
      obtain ⟨p0, p1⟩ := HX.out.cells hb1
      have hlt : w0.heap.size < w1.heap.size := by have := HB1.out.size; have := HZ.out; omega
      clear hb1
      go_wp2
      go_region_held3 (fun w' => w'.cell? ⟨w0.heap.size, 0, none⟩ = some (.int .i64 num) ∧ w'.cell? ⟨w0.heap.size, 1, none⟩ = some (.int .i64 den) ∧ Below w1.heap.size w1 w') (first | exact ⟨p0, p1, (Below.refl _ _).drew⟩ | exact V.keep3 hlt ‹_ ∧ _ ∧ Below _ _ _› hb | exact V.keep3 hlt ‹_ ∧ _ ∧ Below _ _ _› (b_alloc _ _))
        (first
          | (go_at_call 73; refine (shiftedBy _ _ _ R _ _ _ ?hm HQ.out n1 n2 HSm.out (M.near_rat HR.out)).mono ?_; (case hm => exact HA.out.below (HB1.out.trans ((V.low3 ‹_ ∧ _ ∧ Below _ _ _›).mono HB1.out.size))); rintro e w2 ⟨a2, cap2, rfl, hO, hb⟩; rw [← HP.out] at hO; have HO := Lib.hid hO; have HB2 := Lib.hid hb; clear hO)
          | (go_at_call 72; refine (leastFixedPoint _ _ _ P _ _ z _ ?hq ?hi HLB.out).mono ?_;
              (case hq => first | (have := sq_shift (by rw [← HP.out]; exact HO.out.mat) HSh.out n1 n2; rw [← HP.out] at this; exact this) | (have := sq_shift (by rw [← HP.out]; exact HO.out.mat) HSh.out n1 n2; rw [← HP.out] at this; exact this.below (b_alloc _ _)));
              (case hi => first | (have := (own_made w2 0 n (Nat.zero_le _) (by unfold maxLen; omega)).ints'; rw [HZd.out] at this; exact this) | (have := (own_made w1.drew 0 n (Nat.zero_le _) (by unfold maxLen; omega)).ints'; rw [HZd.out] at this; exact this.below HB2.out));
              rintro e w3 ⟨b3, m, c3, rfl, ho, hb⟩))
      all_goals
        have hb3 : Below w1.heap.size w1 w3 := V.low3 (by assumption)
        have hsz := HB2.out.size
        have HB3 := Lib.hid (HX.out.trans (HB1.out.trans (hb3.mono HB1.out.size)))
        have hsl : w0.heap.size ≤ w2.heap.size := by
          have q : (w1.drew).heap.size = w1.heap.size := rfl
          simp [q] at hsz
          omega
        have HO3 := Lib.hid (ho.mono (B' := w0.heap.size) (by first | omega | (simp; omega)))
        clear ho hb hb3 hsz
        go_wp2
        go_ret2
        rw [HE.out]
        exact ⟨_, _, _, rfl, HO3.out, HB3.out⟩
    · simp only [Bool.not_eq_true] at hr
      have HR := Lib.hid hr
      have HE : Hid (M.potRes R num den = ([], 1)) := by show _ = _; unfold M.potRes; rw [hs, hr]; rfl
      clear h hs hr
      go_enter Tryz.func12, Tryz.ntmps12
      go_wp2_with fail
      simp only [← hwd] at *
      clear hwd
      refine (isSquare_b _ _ _ R _ true HS.out HA.out).mono ?_
      rintro e w' ⟨rfl, rfl⟩
      go_wp2_with fail
      refine (isRatio_b _ _ false HR.out _).mono ?_
      rintro e w1 ⟨rfl, hb1⟩
      have HB1 := Lib.hid (HX.out.trans hb1)
      clear hb1
      go_wp2
      go_ret2
      exact VRes.nil HE.out HB1.out
  · simp only [Bool.not_eq_true] at hs
    have HS := Lib.hid hs
    have HE : Hid (M.potRes R num den = ([], 1)) := by show _ = _; unfold M.potRes; rw [hs]; rfl
    clear h hs
    go_enter Tryz.func12, Tryz.ntmps12
    go_wp2_with fail
    simp only [← hwd] at *
    clear hwd
    refine (isSquare_b _ _ _ R _ false HS.out HA.out).mono ?_
    rintro e w' ⟨rfl, rfl⟩
    go_wp2
    go_ret2
    exact VRes.nil HE.out HX.out.below
set_option maxRecDepth 100000 in
set_option maxHeartbeats 2000000 in
theorem sPotentialOf (a : Option Addr) (n cap : Nat) (R : List (List Int)) (num den : Int) (w0 : World) (h : Mat w0 a n R) :
    Calls Tryz.prog 13 #[.slice a n cap, .agg #[.int .i64 num, .int .i64 den]] w0 (VRes (M.potRes R num den) w0) := by
  obtain ⟨w, hwd⟩ : ∃ w, w = w0.alloc (rbox num den) := ⟨_, rfl⟩
  have HX : Hid (Boxed w0 w num den) := by show Boxed _ _ _ _; rw [hwd]; exact boxed _ _ _
  have HA : Hid (Mat w a n R) := h.below HX.out.below
  have HZ := Lib.hid HX.out.size
  by_cases hs : M.sqB R = true
  · have HS := Lib.hid hs
    by_cases hr : M.isRat num den = true
    · have HR := Lib.hid hr
      obtain ⟨r1, n1, n2, r4⟩ := sq_parts HA.out hs
      have HQ := Lib.hid r1
      have HSm := Lib.hid r4
      have HE : Hid (M.potRes R num den = M.lfpL (M.mk n n (M.shf (M.ent R) num den)) n (M.zerosL n)) := pot_lfp HA.out.1 hs hr
      have HSh : Hid (∀ i j, i < n → j < n → M.Sm 1000001000000 (M.shf (M.ent R) num den i j)) := fun i j hi hj => M.shf_sm (M.near_rat hr) (r4 i j hi hj)
      have HLB : Hid (∀ k, k < n → M.Big ((M.zerosL n).getD k 0)) := fun k _ => by rw [M.zeros_at]; exact .inr (by omega)
      have hmk := run_make_row' (P := Tryz.prog) 29 2 (.int .i64 0) 8 Tryz.underlying29 info64 rfl .i64 .i64 n (by omega) (by omega)
      obtain ⟨np, hnp⟩ : ∃ np, np = M.noPos (M.ent (M.mk n n (M.shf (M.ent R) num den))) n := ⟨_, rfl⟩
      -- the list that is told is finite exactly if it holds values
      have HF : Hid (np = true → (M.applyM (M.starM (M.mk n n (M.shf (M.ent R) num den)) n) (M.zerosL n)).all M.isFin = M.isVec (M.applyM (M.starM (M.mk n n (M.shf (M.ent R) num den)) n) (M.zerosL n))) := fun hp => by
        rw [hnp, M.noPos_mk] at hp
        have hl := HA.out.1
        have e : M.applyM (M.starM (M.mk n n (M.shf (M.ent R) num den)) n) (M.zerosL n) = M.potL R num den := by unfold M.potL M.shM; rw [hl]
        rw [e, M.isVec_all (by rw [M.pot_len, hl]; exact n1) (by rw [M.pot_len, hl]; exact n2), Bool.eq_iff_iff, List.all_eq_true, List.all_eq_true]
        refine ⟨fun k x hx => M.isVal_of_fin (k x hx), fun k x hx => ?_⟩
        have hv := M.isVal_t (k x hx)
        obtain ⟨i, hi, rfl⟩ := List.mem_iff_getElem.1 hx
        have h1 := (M.pot_sm hs hr (by rw [hl]; exact hp) (i := i) (by rw [← M.pot_len R num den]; exact hi)).2.1
        have e2 : (M.potL R num den).getD i 0 = (M.potL R num den)[i] := by simp [hi]
        rw [e2] at h1
        simp [M.isFin]; omega
      obtain ⟨P, hP⟩ : ∃ P, P = M.mk n n (M.shf (M.ent R) num den) := ⟨_, rfl⟩
      have HP := Lib.hid hP
      obtain ⟨z, hzd⟩ : ∃ z, z = M.zerosL n := ⟨_, rfl⟩
      have HZd : Hid (((List.range n).map fun _ => (0 : Int)) = z) := by show _ = _; rw [hzd]; exact M.zeros_made n
      rw [← hP, ← hzd] at HE HF
      rw [← hzd] at HLB
      rw [← hP] at hnp
      have HNp := Lib.hid hnp
      clear h hs hr r1 r4 hP hzd hnp
      go_enter Tryz.func13, Tryz.ntmps13
      go_wp2_with fail
      simp only [← hwd] at *
      clear hwd
      refine (sSquare_b _ _ _ R _ true HS.out HA.out).mono ?_
      rintro e w' ⟨rfl, qd, rfl⟩
      obtain ⟨p0, p1⟩ := HX.out.cells (b_draws w qd)
      go_wp2_with fail
      refine (sIsRatio_b _ _ true HR.out _).mono ?_
      rintro e w1 ⟨rfl, hb1⟩
      have HB1 := Lib.hid ((b_draws w qd).trans hb1)
      obtain ⟨p0, p1⟩ := HX.out.cells HB1.out
      clear hb1
      go_wp2_with fail
      refine (sShift _ _ _ R _ _ _ (HA.out.below HB1.out) HQ.out n1 n2 HSm.out (M.near_rat HR.out)).mono ?_
      rintro e w2 ⟨a2, cap2, rfl, hO, hb⟩
      have hq := sq_shift hO.mat HSh.out n1 n2
      rw [← HP.out] at hO hq
      have HQ2 := Lib.hid hq
      have HB2 := Lib.hid (bnext HB1.out hb)
      clear hO hb hq
      go_wp2_with fail
      refine (sStar _ _ _ P _ HQ2.out).mono ?_
      rintro e w3 ⟨b3, c3, rfl, hO, hb⟩
      rw [← HNp.out]
      have HO := Lib.hid hO
      have HB3 := Lib.hid (bnext HB2.out hb)
      clear hO hb
      cases np with
      | true =>
        have hO2 := HO.out
        rw [M.bm_star n2 HQ2.out.2.2.1 HNp.out.symm] at hO2
        have HO2 := Lib.hid hO2
        have HSB : Hid (∀ i j, i < n → j < n → M.Big (M.ent (M.starM P n) i j)) := fun i j hi hj => M.star_big n2 HQ2.out.2.2.1 HNp.out.symm hi hj
        obtain ⟨b, hb⟩ : ∃ b, b = M.isVec (M.applyM (M.starM P n) z) := ⟨_, rfl⟩
        have HM : Hid ((M.applyM (M.starM P n) z).all M.isFin = b) := by show _ = _; rw [hb]; exact HF.out rfl
        have HEE : Hid (M.potRes R num den = if b then (M.applyM (M.starM P n) z, 0) else ([], 3)) := by
          show _ = _; rw [HE.out, hb]; unfold M.lfpL; rw [← HNp.out]; rfl
        clear hO2 hb HO HF HE
        cases b with
        | true =>
          go_wp2_with fail
          refine (sApplyB _ _ _ _ _ _ _ z _ (HO2.out.mat.below (b_alloc _ _)) (by have := (own_made w3 0 n (Nat.zero_le _) (by unfold maxLen; omega)).ints'; rw [HZd.out] at this; exact this) (rect_mk _ _ _) HSB.out HLB.out n2 n1 n2).mono ?_
          rintro e w4 ⟨b4, c4, rfl, hx, hb⟩
          have HB4 := Lib.hid (HB3.out.trans ((bel1 hb).mono HB3.out.size))
          have HX4 := Lib.hid (hx.mono (B' := w0.heap.size) (by have := HB3.out.size; have := HZ.out; simp; omega))
          clear hx hb hmk
          go_wp2_with fail
          refine (sAllF_b _ _ _ _ true HM.out _ HX4.out.ints').mono ?_
          rintro e w' ⟨rfl, rfl⟩
          go_wp2
          go_ret2
          rw [HEE.out]
          exact ⟨_, _, _, rfl, HX4.out, HX.out.trans HB4.out⟩
        | false =>
          go_wp2_with fail
          refine (sApplyB _ _ _ _ _ _ _ z _ (HO2.out.mat.below (b_alloc _ _)) (by have := (own_made w3 0 n (Nat.zero_le _) (by unfold maxLen; omega)).ints'; rw [HZd.out] at this; exact this) (rect_mk _ _ _) HSB.out HLB.out n2 n1 n2).mono ?_
          rintro e w4 ⟨b4, c4, rfl, hx, hb⟩
          have HB4 := Lib.hid (HB3.out.trans ((bel1 hb).mono HB3.out.size))
          have HX4 := Lib.hid (hx.mono (B' := w0.heap.size) (by have := HB3.out.size; have := HZ.out; simp; omega))
          clear hx hb hmk
          go_wp2_with fail
          refine (sAllF_b _ _ _ _ false HM.out _ HX4.out.ints').mono ?_
          rintro e w' ⟨rfl, rfl⟩
          go_wp2
          go_ret2
          exact VRes.nil HEE.out (HX.out.trans HB4.out)
      | false =>
        have HEE : Hid (M.potRes R num den = ([], 5)) := by
          show _ = _; rw [HE.out]; unfold M.lfpL; rw [← HNp.out]; rfl
        go_wp2
        go_ret2
        exact VRes.nil HEE.out (HX.out.trans HB3.out)
    · simp only [Bool.not_eq_true] at hr
      have HR := Lib.hid hr
      have HE : Hid (M.potRes R num den = ([], 1)) := by show _ = _; unfold M.potRes; rw [hs, hr]; rfl
      clear h hs hr
      go_enter Tryz.func13, Tryz.ntmps13
      go_wp2_with fail
      simp only [← hwd] at *
      clear hwd
      refine (sSquare_b _ _ _ R _ true HS.out HA.out).mono ?_
      rintro e w' ⟨rfl, qd, rfl⟩
      obtain ⟨p0, p1⟩ := HX.out.cells (b_draws w qd)
      go_wp2_with fail
      refine (sIsRatio_b _ _ false HR.out _).mono ?_
      rintro e w1 ⟨rfl, hb1⟩
      have HB1 := Lib.hid (HX.out.trans ((b_draws w qd).trans hb1))
      clear hb1
      go_wp2
      go_ret2
      exact VRes.nil HE.out HB1.out
  · simp only [Bool.not_eq_true] at hs
    have HS := Lib.hid hs
    have HE : Hid (M.potRes R num den = ([], 1)) := by show _ = _; unfold M.potRes; rw [hs]; rfl
    clear h hs
    go_enter Tryz.func13, Tryz.ntmps13
    go_wp2_with fail
    simp only [← hwd] at *
    clear hwd
    refine (sSquare_b _ _ _ R _ false HS.out HA.out).mono ?_
    rintro e w' ⟨rfl, qd, rfl⟩
    go_wp2
    go_ret2
    exact VRes.nil HE.out (HX.out.trans (b_draws w qd))
end V
end Go.Proofs.YtihpbgjiohnekabGreat

namespace Go.Proofs.YtihpbgjiohnekabGreat
namespace M
def arcsQ (R : List (List Int)) (j i : Nat) : List (List Int) := arcsP R j ++ arcRow R j i
theorem arcsQ_zero (R : List (List Int)) (j : Nat) : arcsQ R j 0 = arcsP R j := by simp [arcsQ, arcRow]
theorem arcsQ_next (R : List (List Int)) (j i : Nat) : arcsQ R j (i + 1) = arcsQ R j i ++ (if crB R j i then [[(j : Int), (i : Int)]] else []) := by
  unfold arcsQ; rw [arcRow_next, List.append_assoc]
theorem arcsQ_end (R : List (List Int)) (j : Nat) : arcsQ R j R.length = arcsP R (j + 1) := by unfold arcsQ; rw [arcsP_next]
theorem arcsQ_len (R : List (List Int)) {j i : Nat} (hj : j ≤ R.length) (hi : i ≤ R.length) (hn : R.length ≤ 10) : (arcsQ R j i).length ≤ 200 := by
  have h1 := arcsP_len R j
  have h2 := arcRow_len R j i
  have h3 := Nat.mul_le_mul hj (Nat.le_refl R.length)
  have h4 := Nat.mul_le_mul hn hn
  unfold arcsQ
  rw [List.length_append]
  omega
end M
namespace V
set_option maxRecDepth 100000
open Go.RowKit
set_option maxRecDepth 100000 in
set_option maxHeartbeats 1000000 in
theorem sCode (a : Option Addr) (n cap : Nat) (R : List (List Int)) (w : World) (h : Mat w a n R) :
    Calls Tryz.prog 101 #[.slice a n cap] w fun e w' => e = .returned (.int .i64 (M.crCode R)) ∧ Below w.heap.size w w' := by
  have HA := Lib.hid h
  have HRn := Lib.hid h.1
  by_cases hs : M.sqB R = true
  · have HS := Lib.hid hs
    obtain ⟨c, hc⟩ : ∃ c, c = M.hasCyc (M.ent R) n := ⟨_, rfl⟩
    have HNo := Lib.hid hc.symm
    have HE : Hid (M.crCode R = if c then 0 else 4) := by show _ = _; unfold M.crCode; rw [if_pos hs, HRn.out, ← hc]
    clear h hs hc
    go_enter Tryz.func101, Tryz.ntmps101
    go_wp2_with fail
    refine (sSquare_b _ _ _ R _ true HS.out HA.out).mono ?_
    rintro e w' ⟨rfl, qd, rfl⟩
    go_wp2_with fail
    refine (sBest _ _ _ R _ (HA.out.below (b_draws _ _)) HS.out).mono ?_
    rintro e w1 ⟨b', n', c', rfl, ho, hb0⟩
    rw [HNo.out]
    have HB := Lib.hid ((b_draws w qd).trans hb0)
    clear ho hb0
    cases c with
    | false =>
      go_wp2
      go_ret
      exact ⟨by rw [HE.out]; rfl, HB.out⟩
    | true =>
      go_wp2
      go_ret
      exact ⟨by rw [HE.out]; rfl, HB.out⟩
  · simp only [Bool.not_eq_true] at hs
    have HS := Lib.hid hs
    have HE : Hid (M.crCode R = 1) := by show _ = _; unfold M.crCode; rw [if_neg (by rw [hs]; exact Bool.false_ne_true)]
    clear h hs
    go_enter Tryz.func101, Tryz.ntmps101
    go_wp2_with fail
    refine (sSquare_b _ _ _ R _ false HS.out HA.out).mono ?_
    rintro e w' ⟨rfl, qd, rfl⟩
    go_wp2
    go_ret
    exact ⟨by rw [HE.out]; rfl, b_draws _ _⟩
theorem ownLit2 (w : World) (x y : Int) : Own (w.alloc (.cells #[.int .i64 x, .int .i64 y] 2)) w.heap.size (.slice (some ⟨w.heap.size, 0, none⟩) 2 2) [x, y] := World.ownsRow_lit w #[.int .i64 x, .int .i64 y] 2 (Nat.le_refl _) (by decide) rfl
theorem appendRowLit (w0 : World) {ops : Array Oper} {rest : List Oper} {o : Oper} {a : Act} {Q : Exit → Act → World → Prop} (hgd : o.guard = none) (s x : Operand)
    (ho : o.op = .call { callee := .builtin .append, args := #[s, x], argTypes := #[24, 24] }) (B : Nat) (v : Value) (L : List (List Int)) (p q : Int) (n : Nat) (hn : L.length = n) (hs : a.eval s = v) (hown : OwnM w0 B v L)
    (hx : a.eval x = .slice (some ⟨w0.heap.size + 1, 0, none⟩) 1 1) (hlen : L.length ≤ 2000000) (hB : B ≤ w0.heap.size)
    (h : ∀ b' c' w', OwnM w' B (.slice b' (n + 1) c') (L ++ [[p, q]]) → Below B w0 w' → wpList Tryz.prog ops Q rest (a.put o.dst (.slice b' (n + 1) c')) w') :
    wpList Tryz.prog ops Q (o :: rest) a ((w0.alloc (.cells #[.int .i64 p, .int .i64 q] 2)).alloc (.cells #[.slice (some ⟨w0.heap.size, 0, none⟩) 2 2] 29)) :=
  appendRow w0 (w0.alloc (.cells #[.int .i64 p, .int .i64 q] 2)) hgd s x ho B v (.slice (some ⟨w0.heap.size, 0, none⟩) 2 2) L [p, q] n hn hs hown (b_alloc _ _) (ownLit2 _ _ _) (by rw [hx]; simp) hlen hB fun b' c' w' h1 h2 _ => h b' c' w' h1 (((b_alloc _ _).mono hB).trans h2)
set_option maxRecDepth 100000 in
set_option maxHeartbeats 4000000 in
theorem sArcs (a : Option Addr) (n cap : Nat) (R : List (List Int)) (w : World) (h : Mat w a n R) (hs : M.sqB R = true) (hc : M.hasCyc (M.ent R) R.length = true) :
    Calls Tryz.prog 102 #[.slice a n cap] w fun e w' => ∃ b c, e = .returned (.slice b (M.arcsL R).length c) ∧ OwnM w' w.heap.size (.slice b (M.arcsL R).length c) (M.arcsL R) ∧ Below w.heap.size w w' := by
  have HA := Lib.hid h
  have hRn : R.length = n := h.1
  have HRn := Lib.hid hRn
  have HS := Lib.hid hs
  obtain ⟨hr, n1, n2, hsm⟩ := sq_parts h hs
  have HR := Lib.hid hr
  have HSm := Lib.hid hsm
  obtain ⟨hnear, hshm, hp⟩ := M.cr_t hs hc
  have hbc := M.best_cyc hs hc
  have hC : M.mean2 R (M.best2 R) = (M.bestR (M.ent R) n, true) := by
    unfold M.best2
    rw [hc, if_pos rfl]
    unfold M.mean2
    rw [if_pos hbc.1, hbc.2.1, hRn]
  have HCb : Hid (∀ i j, M.crB R j i = decide (M.times (M.crS R i j) (M.starF (M.crS R) n j i) = 0)) := fun i j => by unfold M.crB; rw [hRn]
  have hS : M.crS R = M.shf (M.ent R) (M.bestR (M.ent R) n).1 (M.bestR (M.ent R) n).2 := by
    funext i j; unfold M.crS; rw [hRn]
  rw [hRn] at hc hnear hp hshm
  obtain ⟨r, hrr⟩ : ∃ r, r = M.bestR (M.ent R) n := ⟨_, rfl⟩
  rw [← hrr] at hnear hS hC
  have HC := Lib.hid hC
  have HSe := Lib.hid hS
  have HNear := Lib.hid hnear
  have HP := Lib.hid hp
  have HSh := Lib.hid hshm
  have HSb : Hid (∀ i j, i < n → j < n → M.Big (M.crS R i j)) := fun i j hi hj => M.big_sm (hshm i j hi hj) (by omega)
  have HTb : Hid (∀ i j, i < n → j < n → M.Big (M.starF (M.crS R) n i j)) := fun i j hi hj => M.big_sm (M.star_sm n2 hshm hp hi hj) (by omega)
  have HLa : Hid (∀ j i, j ≤ n → i ≤ n → (M.arcsQ R j i).length ≤ 200) := fun j i hj hi => M.arcsQ_len R (by rw [hRn]; exact hj) (by rw [hRn]; exact hi) (by rw [hRn]; exact n2)
  obtain ⟨r1, r2⟩ := r
  clear h hs hr hsm hc hnear hp hrr hS hRn hshm hC hbc
  go_enter Tryz.func102, Tryz.ntmps102
  go_wp2_with fail
  refine (sBest _ _ _ R _ HA.out HS.out).mono ?_
  rintro e w1 ⟨b1, m1, c1, rfl, ho, hb⟩
  have HO1 := Lib.hid ho
  have HB1 := Lib.hid hb
  have HCp := Lib.hid (own_caps ho)
  clear ho hb
  go_wp2_with fail
  refine (sMean _ _ _ R _ _ _ (M.best2 R) _ (HA.out.below HB1.out) HS.out HO1.out.ints' HCp.out.1 HCp.out.2).mono ?_
  rintro e w2 ⟨rfl, hb⟩
  rw [HC.out]
  have HB2 := Lib.hid (HB1.out.trans (hb.mono HB1.out.size))
  clear hb HO1 HCp
  obtain ⟨wb, hwb⟩ : ∃ x, x = w2.alloc (rbox r1 r2) := ⟨_, rfl⟩
  have HX : Hid (Boxed w2 wb r1 r2) := by show Boxed _ _ _ _; rw [hwb]; exact boxed _ _ _
  have HBx := Lib.hid (HB2.out.trans (HX.out.below.mono HB2.out.size))
  go_wp2_with fail
  change Calls _ _ _ (w2.alloc (rbox r1 r2)) _
  rw [← hwb]
  clear hwb
  refine (sShift _ _ _ R r1 r2 _ (HA.out.below HBx.out) HR.out n1 n2 HSm.out HNear.out).mono ?_
  rintro e w3 ⟨b3, c3, rfl, ho, hb⟩
  rw [← HSe.out] at ho
  have HSq3 : Hid (Sq w3 b3 n (M.mk n n (M.crS R))) := ⟨ho.mat, rect_mk _ _ _, fun i j hi hj => by rw [M.ent_mk _ _ _ _ _ hi hj]; exact HSh.out i j hi hj, n1, n2⟩
  obtain ⟨g3, q0, L0, c0, x0, hgg, hgB, -⟩ := ho.at 0 0 (by omega) (by rw [(rect_mk n n _).2 0 (by omega)]; omega)
  subst hgg
  have HO3 := Lib.hid ho
  have HB3 := Lib.hid (HBx.out.trans (hb.mono HBx.out.size))
  clear ho hb hgB
  go_wp2_with fail
  refine (sStar _ _ _ (M.mk n n (M.crS R)) _ HSq3.out).mono ?_
  rintro e w4 ⟨b4, c4, rfl, ho, hb⟩
  have hnp : M.noPos (M.ent (M.mk n n (M.crS R))) n = true := by rw [M.noPos_mk]; exact HP.out
  rw [M.bm_star n2 HSq3.out.2.2.1 hnp, M.starM_mk] at ho
  rw [hnp]
  obtain ⟨g4, q0, L0, c0, x0, hgg, hgB, -⟩ := ho.at 0 0 (by omega) (by rw [(rect_mk n n _).2 0 (by omega)]; omega)
  subst hgg
  have HO4 := Lib.hid ho
  have HO34 := Lib.hid (HO3.out.below hb)
  have HB4 := Lib.hid (HB3.out.trans (hb.mono HB3.out.size))
  have hz4 := HB4.out.size
  clear ho hb hgB hnp HSq3 HO3
  go_wp2
  go_loopw [10, 11, 12] (fun o jv _ wr => ∃ (j : Nat) (b : Option Addr) (c : Nat), j ≤ n ∧ jv = .int .i64 j ∧ o = .slice b (M.arcsP R j).length c ∧ Hid (OwnM wr w4.heap.size (.slice b (M.arcsP R j).length c) (M.arcsP R j)) ∧ Hid (Below w4.heap.size w4 wr)) (fun _ jv _ _ => n - (intOf jv).toNat)
  case atStart => exact ⟨0, _, _, Nat.zero_le _, rfl, rfl, ownM_lit0 _ _ (Nat.le_refl _), b_alloc _ _⟩
  case round =>
    obtain ⟨j, b, c, hj, rfl, rfl, HO, HB⟩ := hrel
    by_cases hjl : j < n
    · have hji : (j : Int) < (n : Int) := by omega
      have e0 : M.arcsP R j = M.arcsQ R j 0 := (M.arcsQ_zero R j).symm
      have HO' : Hid (OwnM wr w4.heap.size (.slice b (M.arcsQ R j 0).length c) (M.arcsQ R j 0)) := by show OwnM _ _ _ _; rw [← e0]; exact HO.out
      rw [e0]
      clear e0 HO
      go_wp2
      go_loopw [10, 12] (fun o iv wr => ∃ (i : Nat) (b : Option Addr) (c : Nat), i ≤ n ∧ iv = .int .i64 i ∧ o = .slice b (M.arcsQ R j i).length c ∧ Hid (OwnM wr w4.heap.size (.slice b (M.arcsQ R j i).length c) (M.arcsQ R j i)) ∧ Hid (Below w4.heap.size w4 wr)) (fun _ iv _ => n - (intOf iv).toNat)
      case atStart => exact ⟨0, _, _, Nat.zero_le _, rfl, rfl, HO', HB⟩
      case round =>
        clear HO' HB
        obtain ⟨i, b, c, hi, rfl, rfl, HO, HB⟩ := hrel
        by_cases hil : i < n
        · have hii : (i : Int) < (n : Int) := by omega
          obtain ⟨gg, q, c5, -, -, hgg, -, s1, s2, -⟩ := (HO34.out.below HB.out).tri (rect_mk _ _ _) i j j hil hjl hjl
          injection hgg with hgg
          injection hgg with hgg
          subst hgg
          obtain ⟨gg, q2, c6, -, -, hgg, -, s3, s4, -⟩ := (HO4.out.below HB.out).tri (rect_mk _ _ _) j i i hjl hil hil
          injection hgg with hgg
          injection hgg with hgg
          subst hgg
          rw [M.ent_mk _ _ _ _ _ hil hjl] at s2
          rw [M.ent_mk _ _ _ _ _ hjl hil] at s4
          have hcb := HCb.out i j
          have hT : ∀ w : World, Calls Tryz.prog 151 #[.int .i64 (M.crS R i j), .int .i64 (M.starF (M.crS R) n j i)] w fun e w' => e = .returned (.int .i64 (M.times (M.crS R i j) (M.starF (M.crS R) n j i))) ∧ w = w' := fun w => sTimesB _ _ _ (HSb.out i j hil hjl) (HTb.out j i hjl hil)
          generalize M.crS R i j = x at *
          generalize M.starF (M.crS R) n j i = y at *
          generalize M.times x y = z at *
          have HT := Lib.hid hT
          have hlen := HLa.out j i hj hi
          have HNx := Lib.hid (M.arcsQ_next R j i)
          clear hT
          by_cases hz : z = 0
          · have hz2 : (z == 0) = true := by simp [hz]
            have HN : Hid (M.arcsQ R j (i + 1) = (M.arcsQ R j i) ++ [[(j : Int), (i : Int)]]) := by
              show _ = _; rw [HNx.out, hcb, decide_eq_true hz, if_pos rfl]
            clear hz hcb HNx
            go_wp2
            go_quiet ((go_at_call 151; exact q_one_s (HT.out _)))
            generalize M.arcsQ R j i = L at *
            generalize hwq : World.drewN wr _ = wq
            have HOq : Hid (OwnM wq w4.heap.size (.slice b L.length c) L) := by show OwnM _ _ _ _; rw [← hwq]; exact HO.out.below (b_draws _ _)
            have HBq : Hid (Below w4.heap.size w4 wq) := by show Below _ _ _; rw [← hwq]; exact HB.out.trans ((b_draws _ _).mono HB.out.size)
            clear hwq
            clear HO HB s1 s2 s3 s4
            go_wp2_with (at_builtin; refine appendRowLit _ rfl (.tmp 61) (.tmp 65) rfl w4.heap.size _ L (j : Int) (i : Int) _ rfl rfl HOq.out rfl (by omega) HBq.out.size ?_)
            intro b7 c7 w7 hO7 hb7
            have HO7 := Lib.hid hO7
            have HB7 := Lib.hid (HBq.out.trans hb7)
            clear hO7 hb7
            go_wp2
            go_roundw
            case rel => exact ⟨i + 1, b7, c7, by omega, by go_num, by rw [HN.out, List.length_append]; rfl, by show OwnM _ _ _ _; rw [HN.out, List.length_append]; exact HO7.out, HB7⟩
            case measure => simp [intOf]; omega
          · have hz2 : (z == 0) = false := by simpa using hz
            have HN : Hid (M.arcsQ R j (i + 1) = M.arcsQ R j i) := by
              show _ = _; rw [HNx.out, hcb, decide_eq_false hz]; simp
            clear hz hcb HNx hlen
            have HOd := fun q => Lib.hid (HO.out.below (b_draws wr q))
            have HBd := fun q => Lib.hid (HB.out.trans ((b_draws wr q).mono HB.out.size))
            go_wp2
            go_quiet ((go_at_call 151; exact q_one_s (HT.out _)))
            go_wp2
            go_roundw
            case rel => exact ⟨i + 1, b, c, by omega, by go_num, by rw [HN.out], by show OwnM _ _ _ _; rw [HN.out]; exact (HOd _).out, HBd _⟩
            case measure => simp [intOf]; omega
        · obtain rfl : i = n := by omega
          have HN : Hid (M.arcsQ R j i = M.arcsP R (j + 1)) := by show _ = _; rw [← M.arcsQ_end, HRn.out]
          have HO2 : Hid (OwnM wr w4.heap.size (.slice b (M.arcsP R (j + 1)).length c) (M.arcsP R (j + 1))) := by show OwnM _ _ _ _; rw [← HN.out]; exact HO.out
          rw [HN.out]
          clear HO
          go_wp2
          go_roundw
          case rel => exact ⟨j + 1, b, c, by omega, by go_num, rfl, HO2, HB⟩
          case measure => simp [intOf]; omega
    · obtain rfl : j = n := by omega
      have HN : Hid (M.arcsP R j = M.arcsL R) := by show _ = _; unfold M.arcsL; rw [HRn.out]
      have HO2 : Hid (OwnM wr w4.heap.size (.slice b (M.arcsL R).length c) (M.arcsL R)) := by show OwnM _ _ _ _; rw [← HN.out]; exact HO.out
      rw [HN.out]
      clear HO
      go_wp2
      go_ret
      exact ⟨b, c, rfl, HO2.out.mono HB4.out.size, HB4.out.trans (HB.out.mono HB4.out.size)⟩
end V
end Go.Proofs.YtihpbgjiohnekabGreat

namespace Go.Proofs.YtihpbgjiohnekabGreat
namespace M
theorem mem_arcsL {R : List (List Int)} {l : List Int} : l ∈ arcsL R ↔ ∃ j i : Nat, j < R.length ∧ i < R.length ∧ crB R j i = true ∧ l = [(j : Int), (i : Int)] := by
  unfold arcsL arcsP arcRow
  simp only [List.mem_flatMap, List.mem_range]
  constructor
  · rintro ⟨j, hj, i, hi, h⟩
    cases e : crB R j i with
    | false => rw [e] at h; simp at h
    | true => rw [e] at h; simp at h; exact ⟨j, i, hj, hi, e, h⟩
  · rintro ⟨j, i, hj, hi, e, rfl⟩
    exact ⟨j, hj, i, hi, by rw [e]; simp⟩
theorem arcsL_at {R : List (List Int)} {k : Nat} (h : k < (arcsL R).length) : ∃ j i : Nat, j < R.length ∧ i < R.length ∧ crB R j i = true ∧ (arcsL R).getD k [] = [(j : Int), (i : Int)] := by
  refine mem_arcsL.1 ?_
  rw [List.getD_eq_getElem?_getD, List.getElem?_eq_getElem h, Option.getD_some]
  exact List.getElem_mem h
theorem arcsL_len (R : List (List Int)) (hn : R.length ≤ 10) : (arcsL R).length ≤ 100 := by
  have h := arcsP_len R R.length
  have := Nat.mul_le_mul hn hn
  unfold arcsL; omega
def arcHas (R : List (List Int)) (k i j : Nat) : Bool := ((arcsL R).take k).contains [(j : Int), (i : Int)]
def matK (R : List (List Int)) (k i j : Nat) : Int := if arcHas R k i j then ent R i j else -1000000000000000
theorem arcHas_next {R : List (List Int)} {k j i : Nat} (h : k < (arcsL R).length) (e : (arcsL R).getD k [] = [(j : Int), (i : Int)]) (s t : Nat) : arcHas R (k + 1) s t = (arcHas R k s t || (decide (s = i) && decide (t = j))) := by
  unfold arcHas
  have e2 : (arcsL R).take (k + 1) = (arcsL R).take k ++ [[(j : Int), (i : Int)]] := by
    rw [List.take_add_one, ← e, List.getD_eq_getElem?_getD, List.getElem?_eq_getElem h]; rfl
  rw [e2]
  by_cases hst : s = i ∧ t = j
  · obtain ⟨rfl, rfl⟩ := hst
    simp
  · have h1 : (decide (s = i) && decide (t = j)) = false := by
      by_cases a : s = i
      · by_cases b : t = j
        · exact absurd ⟨a, b⟩ hst
        · simp [b]
      · simp [a]
    rw [h1, Bool.or_false]
    have h2 : ([(t : Int), (s : Int)] = [(j : Int), (i : Int)]) = False := by
      simp only [List.cons.injEq, and_true, eq_iff_iff, iff_false]
      intro hh
      exact hst ⟨by omega, by omega⟩
    simp [h2]
theorem matK_zero (R : List (List Int)) (n : Nat) : mk n n (matK R 0) = botM n n := by
  unfold botM
  exact mk_congr fun i _ j _ => by unfold matK arcHas; simp
theorem matK_next {R : List (List Int)} {n k j i : Nat} (h : k < (arcsL R).length) (e : (arcsL R).getD k [] = [(j : Int), (i : Int)]) (hi : i < n) :
    (mk n n (matK R k)).set i (((mk n n (matK R k)).getD i []).set j (ent R i j)) = mk n n (matK R (k + 1)) := by
  rw [mk_set _ _ _ _ _ _ hi]
  refine mk_congr fun s _ t _ => ?_
  unfold matK
  rw [arcHas_next h e]
  by_cases a : s = i
  · by_cases b : t = j
    · subst a b; simp
    · rw [if_pos a, if_neg b]; simp [b]
  · rw [if_neg a]; simp [a]
theorem matK_end (R : List (List Int)) : mk R.length R.length (matK R (arcsL R).length) = crM R := by
  unfold crM
  refine mk_congr fun i hi j hj => ?_
  unfold matK crF arcHas
  rw [List.take_length]
  have : (arcsL R).contains [(j : Int), (i : Int)] = crB R j i := by
    apply Bool.eq_iff_iff.2
    rw [List.contains_iff_mem, mem_arcsL]
    constructor
    · rintro ⟨j', i', -, -, h, e⟩
      simp only [List.cons.injEq, and_true] at e
      rw [show j = j' by omega, show i = i' by omega]; exact h
    · intro h; exact ⟨j, i, hj, hi, h, rfl⟩
  rw [this]
theorem matRes_ok (R : List (List Int)) : okM (matRes R).1 := by
  unfold matRes
  by_cases h : crCode R = 0
  · rw [if_pos h]
    obtain ⟨h1, h2⟩ := cr_code h
    obtain ⟨n1, n2, hA⟩ := sq_sm h1
    obtain ⟨k1, k2⟩ := sqB_t h1
    right
    show isMat (crM R) = true
    unfold crM
    refine isMat_mk n1 n2 n1 n2 fun i hi j hj => ?_
    unfold crF
    split
    · exact (isMat_t k1).2.2.2.2.2 i hi j (by rw [← k2]; exact hj)
    · simp [isVal]
  · rw [if_neg h]; exact .inl rfl
end M
namespace V
set_option maxRecDepth 100000
open Go.RowKit
theorem OwnM.rowLt {w w' : World} {B n cap g i q m c : Nat} {R : List (List Int)} (h : OwnM w B (.slice (some ⟨g, 0, none⟩) n cap) R) (hr : Rect R n n) (hi : i < n) (hn : 1 ≤ n) (hg : w'.heap[g]? = w.heap[g]?)
    (hc : w'.cell? ⟨g, i, none⟩ = some (.slice (some ⟨q, 0, none⟩) m c)) : q < w.heap.size := by
  have e : w.cell? ⟨g, i, none⟩ = some (.slice (some ⟨q, 0, none⟩) m c) := (World.cell?_of_block (w := w') (a := ⟨g, i, none⟩) hg.symm).trans hc
  obtain ⟨g3, q3, c3', -, -, hgg, -, hrow3, hx3, -⟩ := h.tri hr i 0 0 hi (by omega) (by omega)
  injection hgg with hgg
  injection hgg with hgg
  subst hgg
  rw [e] at hrow3
  injection hrow3 with h1
  injection h1 with h1
  injection h1 with h1
  injection h1 with h1
  subst h1
  exact cell_lt hx3
set_option maxRecDepth 100000 in
set_option maxHeartbeats 4000000 in
theorem sMatrix (a : Option Addr) (n cap : Nat) (R : List (List Int)) (w : World) (h : Mat w a n R) (hs : M.sqB R = true) (hc : M.hasCyc (M.ent R) R.length = true) :
    Calls Tryz.prog 115 #[.slice a n cap] w (MPost n (M.crM R) w) := by
  have HA := Lib.hid h
  have HRn := Lib.hid h.1
  have HS := Lib.hid hs
  have HC := Lib.hid hc
  obtain ⟨hr, n1, n2, -⟩ := sq_parts h hs
  have HR := Lib.hid hr
  have HLn := Lib.hid (M.arcsL_len R (by rw [h.1]; exact n2))
  clear h hs hc hr
  go_enter Tryz.func115, Tryz.ntmps115
  go_wp2_with fail
  refine (sBottom n n _ (by omega) (by omega)).mono ?_
  rintro e w1 ⟨b1, c1, rfl, ho, hb⟩
  rw [← M.matK_zero R n] at ho
  obtain ⟨g, q0, L0, c0, x0, hgg, hgB, -⟩ := ho.at 0 0 (by omega) (by rw [(rect_mk n n _).2 0 (by omega)]; omega)
  subst hgg
  have HO1 := Lib.hid ho
  have HB1 := Lib.hid hb
  have hg1 : g < w1.heap.size := by
    obtain ⟨g3, q3, c3', -, -, hgg, -, hrow3, -⟩ := ho.tri (rect_mk _ _ _) 0 0 0 (by omega) (by omega) (by omega)
    injection hgg with hgg
    injection hgg with hgg
    subst hgg
    exact cell_lt hrow3
  clear ho hb hgB
  go_wp2_with fail
  refine (sArcs _ _ _ R _ (HA.out.below HB1.out) HS.out HC.out).mono ?_
  rintro e w2 ⟨b2, c2, rfl, ho, hb⟩
  have HL2 := Lib.hid ho
  have HO2 := Lib.hid (HO1.out.below hb)
  have HB2 := Lib.hid (HB1.out.trans (hb.mono HB1.out.size))
  have HG2 : Hid (w2.heap[g]? = w1.heap[g]?) := hb.block g hg1
  have hz1 := HB1.out.size
  have hz2 : w1.heap.size ≤ w2.heap.size := hb.size
  clear ho hb
  go_wp2
  go_loopw [5, 6, 7] (fun kv _ _ wr => ∃ k : Nat, k ≤ (M.arcsL R).length ∧ kv = .int .i64 k ∧ Hid (OwnM wr w.heap.size (.slice (some ⟨g, 0, none⟩) n c1) (M.mk n n (M.matK R k))) ∧ Hid (Same w1.heap.size w2.heap.size w2 wr) ∧ Hid (Below w.heap.size w wr) ∧ Hid (wr.heap[g]? = w1.heap[g]?)) (fun kv _ _ _ => (M.arcsL R).length - (intOf kv).toNat)
  case atStart => exact ⟨0, Nat.zero_le _, rfl, HO2, Same.refl _ _ _, HB2, HG2⟩
  case round =>
    obtain ⟨k, hk, rfl, HO, HSa, HB, HG⟩ := hrel
    clear HO2 HG2
    by_cases hkl : k < (M.arcsL R).length
    · have hki : (k : Int) < ((M.arcsL R).length : Int) := by omega
      obtain ⟨j, i, hj, hi, hcr, he⟩ := M.arcsL_at hkl
      rw [HRn.out] at hj hi
      have HNx : Hid ((M.mk n n (M.matK R k)).set i (((M.mk n n (M.matK R k)).getD i []).set j (M.ent R i j)) = M.mk n n (M.matK R (k + 1))) := M.matK_next hkl he hi
      have hlen := HLn.out
      have HLw : Hid (OwnM wr w1.heap.size (.slice b2 (M.arcsL R).length c2) (M.arcsL R)) := HL2.out.keep HSa.out
      obtain ⟨g2, q2, L2, d2, x0, hgg, -, -, hL2, hx0, r1, r2, -⟩ := HLw.out.at k 0 hkl (by rw [he]; simp)
      obtain ⟨g3, q3, L3, d3, x1, hgg3, -, -, hL3, hx1, r3, r4, -⟩ := HLw.out.at k 1 hkl (by rw [he]; simp)
      subst hgg
      injection hgg3 with hgg3
      injection hgg3 with hgg3
      subst hgg3
      rw [r1] at r3
      injection r3 with r3
      injection r3 with r3 r3b r3c
      injection r3 with r3
      injection r3 with r3
      subst r3 r3b r3c
      rw [he] at hL2 hx0 hx1
      have hL2' : L2 = 2 := hL2
      have hx0' : x0 = (j : Int) := hx0
      have hx1' : x1 = (i : Int) := hx1
      subst hL2' hx0' hx1'
      clear hL2 hx0 hx1 hL3 he hcr HLw
      have hji : (j : Int) < (n : Int) := by omega
      have hii : (i : Int) < (n : Int) := by omega
      generalize (M.arcsL R).length = N at *
      go_wp2
      go_quiet (fail)
      generalize hwq : World.drewN wr _ = wq
      have HOq : Hid (OwnM wq w.heap.size (.slice (some ⟨g, 0, none⟩) n c1) (M.mk n n (M.matK R k))) := by show OwnM _ _ _ _; rw [← hwq]; exact HO.out.below (b_draws _ _)
      have HSq : Hid (Same w1.heap.size w2.heap.size w2 wq) := by show Same _ _ _ _; rw [← hwq]; exact HSa.out
      have HBq : Hid (Below w.heap.size w wq) := by show Below _ _ _; rw [← hwq]; exact below_drewN HB.out _
      have HGq : Hid (wq.heap[g]? = w1.heap[g]?) := by show _ = _; rw [← hwq]; exact HG.out
      clear hwq HO HSa HB HG r1 r2 r4
      obtain ⟨g4, q, c4, q', c', hgg, hq, h1, h2, -, h4, -, h6, ho⟩ := HOq.out.tri (rect_mk _ _ _) i j j hi hj hj
      injection hgg with hgg
      injection hgg with hgg
      subst hgg
      have hne := row_ne h2 h4
      have hql := OwnM.rowLt HO1.out (rect_mk _ _ _) hi n1 HGq.out h1
      obtain ⟨ab, ao, rb, ro, rc, x, hax, hxx, a1, a2⟩ := (HA.out.below HBq.out).rect_ent HR.out i j hi hj
      subst hax
      have hN := ho x
      rw [hxx, HNx.out, ← hxx] at hN
      have HN5 := Lib.hid hN
      have HSn : Hid (Same w1.heap.size w2.heap.size w2 (wq.setCell ⟨q, j, none⟩ (.int .i64 x))) := fun k k1 k2 =>
        (Below.heap_setCell wq ⟨q, j, none⟩ _ k (by show k ≠ q; omega)).trans (HSq.out k k1 k2)
      have HGn : Hid ((wq.setCell ⟨q, j, none⟩ (.int .i64 x)).heap[g]? = w1.heap[g]?) := (Below.heap_setCell wq ⟨q, j, none⟩ _ g (fun e => hne e.symm)).trans HGq.out
      clear hN ho hxx h4
      go_wp2
      go_still_tail 13, (by kernel_rfl)
      repeat still_step
      try refine wpStill_nil ?_
      change wpList _ _ _ _ _ wq.drew
      go_wp2
      go_roundw
      case rel => exact ⟨k + 1, by omega, by go_num, HN5.out.keep (fun _ _ _ => rfl), HSn, HBq.out.drew.setCell hq _, HGn⟩
      case measure => simp [intOf]; omega
    · obtain rfl : k = (M.arcsL R).length := by omega
      have HO5 : Hid (OwnM wr w.heap.size (.slice (some ⟨g, 0, none⟩) n c1) (M.crM R)) := by
        show OwnM _ _ _ _; rw [← M.matK_end, HRn.out]; exact HO.out
      clear HO
      go_wp2
      go_ret
      exact ⟨_, _, rfl, HO5.out, HB.out⟩
set_option maxRecDepth 100000 in
set_option maxHeartbeats 1000000 in
theorem sCriticalMatrix (a : Option Addr) (n cap : Nat) (R : List (List Int)) (w : World) (h : Mat w a n R) :
    Calls Tryz.prog 44 #[.slice a n cap] w (MRes (M.matRes R) w) := by
  have HA := Lib.hid h
  have hRn : R.length = n := h.1
  by_cases hc : M.crCode R = 0
  · obtain ⟨h1, h2⟩ := M.cr_code hc
    have H1 := Lib.hid h1
    have H2 := Lib.hid h2
    have HK := Lib.hid hc
    have HE : Hid (M.matRes R = (M.crM R, 0)) := by show _ = _; unfold M.matRes; rw [if_pos hc]
    clear h hc h1 h2 hRn
    go_enter Tryz.func44, Tryz.ntmps44
    go_wp2_with fail
    refine (sCode _ _ _ R _ HA.out).mono ?_
    rintro e w1 ⟨rfl, hb⟩
    rw [HK.out]
    have HB := Lib.hid hb
    clear hb
    go_wp2_with fail
    refine (sMatrix _ _ _ R _ (HA.out.below HB.out) H1.out H2.out).mono ?_
    rintro e w2 ⟨b2, c2, rfl, ho, hb⟩
    have HO := Lib.hid (ho.mono HB.out.size)
    have HB2 := Lib.hid (HB.out.trans (hb.mono HB.out.size))
    clear ho hb
    go_wp2
    go_ret2
    rw [HE.out]
    exact ⟨_, _, _, rfl, HO.out, HB2.out⟩
  · obtain ⟨k, hk⟩ : ∃ k, k = M.crCode R := ⟨_, rfl⟩
    have HE : Hid (M.matRes R = ([], k)) := by show _ = _; unfold M.matRes; rw [if_neg hc, hk]
    have HK := Lib.hid hk
    have hk0 : (k != 0) = true := by rw [hk]; simpa using hc
    clear h hc hRn hk
    go_enter Tryz.func44, Tryz.ntmps44
    go_wp2_with fail
    refine (sCode _ _ _ R _ HA.out).mono ?_
    rintro e w1 ⟨rfl, hb⟩
    rw [← HK.out]
    have HB := Lib.hid hb
    clear hb
    go_wp2
    go_ret2
    exact MRes.nil HE.out HB.out
end V
end Go.Proofs.YtihpbgjiohnekabGreat

namespace Go.Proofs.YtihpbgjiohnekabGreat
namespace M
theorem uniq_lt : ∀ {l k : List Int}, l.Pairwise (fun x y => x < y) → k.Pairwise (fun x y => x < y) → (∀ x, x ∈ l ↔ x ∈ k) → l = k := by
  intro l
  induction l with
  | nil =>
    intro k _ _ h
    cases k with
    | nil => rfl
    | cons y k => exact absurd ((h y).2 (List.mem_cons_self ..)) (List.not_mem_nil)
  | cons x l ih =>
    intro k hl hk h
    cases k with
    | nil => exact absurd ((h x).1 (List.mem_cons_self ..)) (List.not_mem_nil)
    | cons y k =>
      obtain ⟨l1, l2⟩ := List.pairwise_cons.1 hl
      obtain ⟨k1, k2⟩ := List.pairwise_cons.1 hk
      have hxy : x = y := by
        rcases List.mem_cons.1 ((h x).1 (List.mem_cons_self ..)) with e | e
        · exact e
        · rcases List.mem_cons.1 ((h y).2 (List.mem_cons_self ..)) with e2 | e2
          · exact e2.symm
          · have := k1 x e; have := l1 y e2; omega
      subst hxy
      rw [ih l2 k2 fun z => ?_]
      constructor
      · intro hz
        rcases List.mem_cons.1 ((h z).1 (List.mem_cons_of_mem _ hz)) with e | e
        · have := l1 z hz; omega
        · exact e
      · intro hz
        rcases List.mem_cons.1 ((h z).2 (List.mem_cons_of_mem _ hz)) with e | e
        · have := k1 z hz; omega
        · exact e
theorem cmp_mem (d : Array Int) (m : Nat) (x : Int) : x ∈ Lib.compactUpTo d m ↔ ∃ j, j < m ∧ d[j]! = x := by
  induction m with
  | zero => simp [Lib.compactUpTo]
  | succ m ih =>
    rw [Lib.compactUpTo_succ, List.mem_append, ih]
    constructor
    · rintro (⟨j, hj, e⟩ | h)
      · exact ⟨j, by omega, e⟩
      · split at h
        · exact ⟨m, by omega, (List.mem_singleton.1 h).symm⟩
        · exact absurd h (List.not_mem_nil)
    · rintro ⟨j, hj, e⟩
      by_cases hjm : j < m
      · exact .inl ⟨j, hjm, e⟩
      · obtain rfl : j = m := by omega
        by_cases hk : Lib.keeps d j = true
        · right; rw [if_pos hk, e]; exact List.mem_singleton.2 rfl
        · left
          simp only [Lib.keeps, decide_eq_true_eq, not_or, Decidable.not_not] at hk
          exact ⟨j - 1, by omega, by rw [← hk.2, e]⟩
theorem cmp_lt (d : Array Int) (m : Nat) (hm : m ≤ d.size) (hs : ∀ j, j + 1 < d.size → d[j]! ≤ d[j + 1]!) : (Lib.compactUpTo d m).Pairwise (fun x y => x < y) ∧ ∀ x, x ∈ Lib.compactUpTo d m → x ≤ d[m - 1]! := by
  induction m with
  | zero => exact ⟨by simp [Lib.compactUpTo], fun x h => by simp [Lib.compactUpTo] at h⟩
  | succ m ih =>
    obtain ⟨i1, i2⟩ := ih (by omega)
    have hstep : ∀ x, x ∈ Lib.compactUpTo d m → x ≤ d[m]! := fun x hx => by
      have h1 := i2 x hx
      obtain ⟨j, hj, -⟩ := (cmp_mem d m x).1 hx
      have h2 := hs (m - 1) (by omega)
      rw [show m - 1 + 1 = m by omega] at h2
      omega
    rw [Lib.compactUpTo_succ, Nat.add_sub_cancel]
    by_cases hk : Lib.keeps d m = true
    · rw [if_pos hk]
      refine ⟨List.pairwise_append.2 ⟨i1, List.pairwise_singleton .., fun x hx y hy => ?_⟩, fun x hx => ?_⟩
      · obtain rfl := List.mem_singleton.1 hy
        have h1 := i2 x hx
        obtain ⟨j, hj, -⟩ := (cmp_mem d m x).1 hx
        have h2 := hs (m - 1) (by omega)
        rw [show m - 1 + 1 = m by omega] at h2
        simp only [Lib.keeps, decide_eq_true_eq] at hk
        rcases hk with hk | hk
        · omega
        · omega
      · rcases List.mem_append.1 hx with h | h
        · exact hstep x h
        · rw [List.mem_singleton.1 h]; exact Int.le_refl _
    · rw [if_neg hk, List.append_nil]
      exact ⟨i1, hstep⟩
theorem srt_mem (ss : List Int) (x : Int) : x ∈ Lib.compact (ss.mergeSort fun x y => decide (x ≤ y)) ↔ x ∈ ss := by
  unfold Lib.compact
  rw [cmp_mem, ← (List.mergeSort_perm ss fun x y => decide (x ≤ y)).mem_iff]
  generalize (ss.mergeSort fun x y => decide (x ≤ y)) = l
  rw [List.mem_iff_getElem]
  constructor
  · rintro ⟨j, hj, e⟩
    exact ⟨j, hj, by rw [← e]; simp [hj]⟩
  · rintro ⟨j, hj, e⟩
    exact ⟨j, hj, by rw [← e]; simp [hj]⟩
theorem srt_lt (ss : List Int) : (Lib.compact (ss.mergeSort fun x y => decide (x ≤ y))).Pairwise (fun x y => x < y) := by
  have hp : (ss.mergeSort fun x y => decide (x ≤ y)).Pairwise (fun x y => decide (x ≤ y) = true) :=
    List.pairwise_mergeSort (fun a b c h1 h2 => by simp only [decide_eq_true_eq] at *; omega) (fun a b => by simp only [Bool.or_eq_true, decide_eq_true_eq]; omega) ss
  unfold Lib.compact
  generalize (ss.mergeSort fun x y => decide (x ≤ y)) = l at *
  refine (cmp_lt l.toArray l.length (by simp) fun j hj => ?_).1
  have hj' : j + 1 < l.length := by simpa using hj
  have := List.pairwise_iff_getElem.1 hp j (j + 1) (by omega) hj' (by omega)
  simp only [decide_eq_true_eq] at this
  simpa [hj', show j < l.length by omega] using this
theorem nodesL_lt (R : List (List Int)) : (nodesL R).Pairwise (fun x y => x < y) := by
  unfold nodesL nodesP
  rw [List.pairwise_map]
  exact (List.pairwise_lt_range.filter _).imp fun h => by omega
theorem mem_nodesL {R : List (List Int)} {x : Int} : x ∈ nodesL R ↔ ∃ f : Nat, f < R.length ∧ crN R f = true ∧ x = f := by
  unfold nodesL nodesP
  rw [List.mem_map]
  constructor
  · rintro ⟨f, hf, rfl⟩
    obtain ⟨h1, h2⟩ := List.mem_filter.1 hf
    exact ⟨f, List.mem_range.1 h1, h2, rfl⟩
  · rintro ⟨f, h1, h2, rfl⟩
    exact ⟨f, List.mem_filter.2 ⟨List.mem_range.2 h1, h2⟩, rfl⟩
/-- The first nodes of all arcs, sorted and without repeats. -/
theorem srt_nodes {R : List (List Int)} {ss : List Int} (h : ∀ x, x ∈ ss ↔ ∃ f t : Nat, f < R.length ∧ t < R.length ∧ crB R f t = true ∧ x = f) : Lib.compact (ss.mergeSort fun x y => decide (x ≤ y)) = nodesL R := by
  refine uniq_lt (srt_lt ss) (nodesL_lt R) fun x => ?_
  rw [srt_mem, h, mem_nodesL]
  unfold crN
  constructor
  · rintro ⟨f, t, hf, ht, hc, e⟩
    exact ⟨f, hf, List.any_eq_true.2 ⟨t, List.mem_range.2 ht, hc⟩, e⟩
  · rintro ⟨f, hf, hc, e⟩
    obtain ⟨t, ht, hc⟩ := List.any_eq_true.1 hc
    exact ⟨f, t, hf, List.mem_range.1 ht, hc, e⟩
theorem nodesL_len (R : List (List Int)) : (nodesL R).length ≤ R.length := by
  unfold nodesL nodesP
  rw [List.length_map]
  have := List.length_filter_le (crN R) (List.range R.length)
  simpa using this
end M
end Go.Proofs.YtihpbgjiohnekabGreat

/- Texts laid together: Pot1, Pot3, Img2, Cert. -/
import Derived.Test.YtmhpgnndjagogaaGreatQz7
import Derived.Test.YtmhpgnndjagogaaGreatQz13
import Derived.Deep.RegionWith
import Derived.Deep.RegionHeld3
import Derived.Test.YtmhpgnndjagogaaGreatQz8
set_option linter.unusedSimpArgs false
set_option linter.unusedVariables false
set_option linter.unusedSectionVars false
namespace Go.Proofs.YtmhpgnndjagogaaGreat
namespace M
theorem noPos_mk (n : Nat) (f : Nat → Nat → Int) : noPos (ent (mk n n f)) n = noPos f n := noPos_congr fun _ _ hi hj => ent_mk _ _ _ _ _ hi hj
theorem starM_mk (n : Nat) (f : Nat → Nat → Int) : starM (mk n n f) n = mk n n (starF f n) := mk_congr fun _ hi _ hj => starF_congr (fun _ _ hi hj => ent_mk _ _ _ _ _ hi hj) hi hj
def finV (x : Int) : Bool := isFin x
theorem zeros_len (n : Nat) : (zerosL n).length = n := by simp [zerosL]
theorem zeros_made (n : Nat) : ((List.range n).map fun _ => (0 : Int)) = zerosL n := by
  unfold zerosL
  apply List.ext_getElem
  · simp
  · intro i h1 h2; simp
end M
namespace V
open Go.RowKit
theorem sq_shift {w : World} {a : Option Addr} {n : Nat} {f : Nat → Nat → Int} (h : Mat w a n (M.mk n n f)) (hf : ∀ i j, i < n → j < n → M.Sm 1000001000000 (f i j)) (n1 : 1 ≤ n) (n2 : n ≤ 10) : Sq w a n (M.mk n n f) :=
  ⟨h, rect_mk _ _ _, fun i j hi hj => by rw [M.ent_mk _ _ _ _ _ hi hj]; exact hf i j hi hj, n1, n2⟩
set_option maxRecDepth 100000 in
set_option maxHeartbeats 400000 in
theorem sAllF (a : Option Addr) (n cap : Nat) (l : List Int) (w : World) (h : Ints .i64 w a n l) :
    Calls Tryz.prog 74 #[.slice a n cap, .bool true] w fun e w' => e = .returned (.bool (l.all M.isFin)) ∧ w = w' := by
  obtain ⟨hl, hm, hr⟩ := h
  unfold maxLen at hm
  have HL := Lib.hid hl
  clear hl
  go_enter Tryz.func74, Tryz.ntmps74
  go_wp2
  go_loop [5] (fun i => ∃ k : Nat, k ≤ n ∧ i = .int .i64 k ∧ Hid ((l.take k).all M.isFin = true)) (fun i => n - (intOf i).toNat)
  case atStart => exact ⟨0, Nat.zero_le _, rfl, rfl⟩
  case round =>
    obtain ⟨k, hk, rfl, HA⟩ := hrel
    by_cases hlt : k < n
    · rcases hr with h0 | ⟨b, off, rfl, hbl, hc⟩
      · omega
      · have hck := hc k hlt
        have hsn := M.take_snoc l k (by have := HL.out; omega)
        obtain ⟨x, hx⟩ : ∃ x, x = l.getD k 0 := ⟨_, rfl⟩
        rw [← hx] at hck hsn
        have HX := Lib.hid hx
        have HS := Lib.hid hsn
        clear hc hx hsn
        by_cases hb : x = -1000000000000000
        · have HF : Hid (l.all M.isFin = false) := M.all_false _ l k (by have := HL.out; omega) (by rw [← HX.out, hb]; rfl)
          have hv : M.isVal x = true := by rw [hb]; exact M.bot_val
          subst hb
          go_wp2_with (first | (go_at_call 139; refine (sIsValue _ _).mono ?_; rintro e w' ⟨rfl, rfl⟩))
          go_ret
          exact ⟨retB (by rw [HF.out]), rfl⟩
        · have hb2 : (x == -1000000000000000) = false := by simpa using hb
          have hvf : M.isVal x = M.isFin x := by unfold M.isVal; rw [decide_eq_false hb, Bool.false_or]
          by_cases hv : M.isVal x = true
          · have HA2 : Hid ((l.take (k + 1)).all M.isFin = true) := by show _ = _; rw [HS.out, M.all_snoc, HA.out, ← hvf, hv]; rfl
            clear hvf
            go_wp2_with (first | (go_at_call 139; refine (sIsValue _ _).mono ?_; rintro e w' ⟨rfl, rfl⟩))
            go_round
            case rel => exact ⟨k + 1, by omega, by go_num, HA2⟩
            case measure => simp [intOf]; omega
          · simp only [Bool.not_eq_true] at hv
            have HF : Hid (l.all M.isFin = false) := M.all_false _ l k (by have := HL.out; omega) (by rw [← HX.out, ← hvf, hv])
            clear hvf
            go_wp2_with (first | (go_at_call 139; refine (sIsValue _ _).mono ?_; rintro e w' ⟨rfl, rfl⟩))
            go_ret
            exact ⟨retB (by rw [HF.out]), rfl⟩
    · have hkn : k = n := by omega
      subst hkn
      have HT : Hid (l.take k = l) := M.take_all l k (by have := HL.out; omega)
      clear hr
      go_wp2
      go_ret
      exact ⟨retB (by rw [← HT.out, HA.out]), rfl⟩
theorem sAllF_b (a : Option Addr) (n cap : Nat) (l : List Int) (b : Bool) (hb : l.all M.isFin = b) (w : World) (h : Ints .i64 w a n l) :
    Calls Tryz.prog 74 #[.slice a n cap, .bool true] w fun e w' => e = .returned (.bool b) ∧ w = w' := by subst hb; exact sAllF a n cap l w h
/-- The plain answer, by the shifted matrix. -/
theorem pot_lfp {R : List (List Int)} {n : Nat} {num den : Int} (hn : R.length = n) (hs : M.sqB R = true) (hr : M.isRat num den = true) : M.potRes R num den = M.lfpL (M.mk n n (M.shf (M.ent R) num den)) n (M.zerosL n) := by
  subst hn
  unfold M.potRes M.lfpL
  rw [hs, hr, M.noPos_mk]
  rfl
set_option maxRecDepth 100000 in
set_option maxHeartbeats 2000000 in
theorem potentialOf (a : Option Addr) (n cap : Nat) (R : List (List Int)) (num den : Int) (w0 : World) (h : Mat w0 a n R) :
    Calls Tryz.prog 23 #[.slice a n cap, .agg #[.int .i64 num, .int .i64 den]] w0 (VRes (M.potRes R num den) w0) := by
  obtain ⟨w, hwd⟩ : ∃ w, w = w0.alloc (rbox num den) := ⟨_, rfl⟩
  have HX : Hid (Boxed w0 w num den) := by show Boxed _ _ _ _; rw [hwd]; exact boxed _ _ _
  have HA : Hid (Mat w a n R) := h.below HX.out.below
  have HZ := Lib.hid HX.out.size
  obtain ⟨c0, c1⟩ := HX.out.cells (Below.refl _ _)
  by_cases hs : M.sqB R = true
  · have HS := Lib.hid hs
    by_cases hr : M.isRat num den = true
    · have HR := Lib.hid hr
      obtain ⟨r1, n1, n2, r4⟩ := sq_parts HA.out hs
      have HQ := Lib.hid r1
      have HSm := Lib.hid r4
      have HE : Hid (M.potRes R num den = M.lfpL (M.mk n n (M.shf (M.ent R) num den)) n (M.zerosL n)) := pot_lfp HA.out.1 hs hr
      have HSh : Hid (∀ i j, i < n → j < n → M.Sm 1000001000000 (M.shf (M.ent R) num den i j)) := fun i j hi hj => M.shf_sm (M.near_rat hr) (r4 i j hi hj)
      have HLB : Hid (∀ k, k < n → M.Big ((M.zerosL n).getD k 0)) := fun k _ => by rw [M.zeros_at]; exact .inr (by omega)
      obtain ⟨P, hP⟩ : ∃ P, P = M.mk n n (M.shf (M.ent R) num den) := ⟨_, rfl⟩
      have HP := Lib.hid hP
      obtain ⟨z, hzd⟩ : ∃ z, z = M.zerosL n := ⟨_, rfl⟩
      have HZd : Hid (((List.range n).map fun _ => (0 : Int)) = z) := by show _ = _; rw [hzd]; exact M.zeros_made n
      rw [← hP, ← hzd] at HE
      rw [← hzd] at HLB
      have hmk := run_make_row' (P := Tryz.prog) 28 2 (.int .i64 0) 8 Tryz.underlying28 info64 rfl .i64 .i64 n (by omega) (by omega)
      clear h hs hr r1 r4 hP hzd
      go_enter Tryz.func23, Tryz.ntmps23
      go_wp2_with fail
      simp only [← hwd] at *
      clear hwd
      refine (isSquare_b _ _ _ R _ true HS.out HA.out).mono ?_
      rintro e w' ⟨rfl, rfl⟩
      go_wp2_with fail
      refine (isRatio_b _ _ true HR.out _).mono ?_
      rintro e w1 ⟨rfl, hb1⟩
      have HB1 := Lib.hid hb1
      obtain ⟨p0, p1⟩ := HX.out.cells hb1
      have hlt : w0.heap.size < w1.heap.size := by have := HB1.out.size; have := HZ.out; omega
      clear hb1
      go_wp2
      go_region_held3 (fun w' => w'.cell? ⟨w0.heap.size, 0, none⟩ = some (.int .i64 num) ∧ w'.cell? ⟨w0.heap.size, 1, none⟩ = some (.int .i64 den) ∧ Below w1.heap.size w1 w') (first | exact ⟨p0, p1, (Below.refl _ _).drew⟩ | exact V.keep3 hlt ‹_ ∧ _ ∧ Below _ _ _› hb | exact V.keep3 hlt ‹_ ∧ _ ∧ Below _ _ _› (b_alloc _ _))
        (first
          | (go_at_call 69; refine (shiftedBy _ _ _ R _ _ _ ?hm HQ.out n1 n2 HSm.out (M.near_rat HR.out)).mono ?_; (case hm => exact HA.out.below (HB1.out.trans ((V.low3 ‹_ ∧ _ ∧ Below _ _ _›).mono HB1.out.size))); rintro e w2 ⟨a2, cap2, rfl, hO, hb⟩; rw [← HP.out] at hO; have HO := Lib.hid hO; have HB2 := Lib.hid hb; clear hO)
          | (go_at_call 68; refine (leastFixedPoint _ _ _ P _ _ z _ ?hq ?hi HLB.out).mono ?_;
              (case hq => first | (have := sq_shift (by rw [← HP.out]; exact HO.out.mat) HSh.out n1 n2; rw [← HP.out] at this; exact this) | (have := sq_shift (by rw [← HP.out]; exact HO.out.mat) HSh.out n1 n2; rw [← HP.out] at this; exact this.below (b_alloc _ _)));
              (case hi => first | (have := (own_made w2 0 n (Nat.zero_le _) (by unfold maxLen; omega)).ints'; rw [HZd.out] at this; exact this) | (have := (own_made w1.drew 0 n (Nat.zero_le _) (by unfold maxLen; omega)).ints'; rw [HZd.out] at this; exact this.below HB2.out));
              rintro e w3 ⟨b3, m, c3, rfl, ho, hb⟩))
      all_goals
        have hb3 : Below w1.heap.size w1 w3 := V.low3 (by assumption)
        have hsz := HB2.out.size
        have HB3 := Lib.hid (HX.out.trans (HB1.out.trans (hb3.mono HB1.out.size)))
        have hsl : w0.heap.size ≤ w2.heap.size := by
          have q : (w1.drew).heap.size = w1.heap.size := rfl
          simp [q] at hsz
          omega
        have HO3 := Lib.hid (ho.mono (B' := w0.heap.size) (by first | omega | (simp; omega)))
        clear ho hb hb3 hsz
        go_wp2
        go_ret2
        rw [HE.out]
        exact ⟨_, _, _, rfl, HO3.out, HB3.out⟩
    · simp only [Bool.not_eq_true] at hr
      have HR := Lib.hid hr
      have HE : Hid (M.potRes R num den = ([], 1)) := by show _ = _; unfold M.potRes; rw [hs, hr]; rfl
      clear h hs hr
      go_enter Tryz.func23, Tryz.ntmps23
      go_wp2_with fail
      simp only [← hwd] at *
      clear hwd
      refine (isSquare_b _ _ _ R _ true HS.out HA.out).mono ?_
      rintro e w' ⟨rfl, rfl⟩
      go_wp2_with fail
      refine (isRatio_b _ _ false HR.out _).mono ?_
      rintro e w1 ⟨rfl, hb1⟩
      have HB1 := Lib.hid (HX.out.trans hb1)
      clear hb1
      go_wp2
      go_ret2
      exact VRes.nil HE.out HB1.out
  · simp only [Bool.not_eq_true] at hs
    have HS := Lib.hid hs
    have HE : Hid (M.potRes R num den = ([], 1)) := by show _ = _; unfold M.potRes; rw [hs]; rfl
    clear h hs
    go_enter Tryz.func23, Tryz.ntmps23
    go_wp2_with fail
    simp only [← hwd] at *
    clear hwd
    refine (isSquare_b _ _ _ R _ false HS.out HA.out).mono ?_
    rintro e w' ⟨rfl, rfl⟩
    go_wp2
    go_ret2
    exact VRes.nil HE.out HX.out.below
set_option maxRecDepth 100000 in
set_option maxHeartbeats 2000000 in
theorem sPotentialOf (a : Option Addr) (n cap : Nat) (R : List (List Int)) (num den : Int) (w0 : World) (h : Mat w0 a n R) :
    Calls Tryz.prog 24 #[.slice a n cap, .agg #[.int .i64 num, .int .i64 den]] w0 (VRes (M.potRes R num den) w0) := by
  obtain ⟨w, hwd⟩ : ∃ w, w = w0.alloc (rbox num den) := ⟨_, rfl⟩
  have HX : Hid (Boxed w0 w num den) := by show Boxed _ _ _ _; rw [hwd]; exact boxed _ _ _
  have HA : Hid (Mat w a n R) := h.below HX.out.below
  have HZ := Lib.hid HX.out.size
  by_cases hs : M.sqB R = true
  · have HS := Lib.hid hs
    by_cases hr : M.isRat num den = true
    · have HR := Lib.hid hr
      obtain ⟨r1, n1, n2, r4⟩ := sq_parts HA.out hs
      have HQ := Lib.hid r1
      have HSm := Lib.hid r4
      have HE : Hid (M.potRes R num den = M.lfpL (M.mk n n (M.shf (M.ent R) num den)) n (M.zerosL n)) := pot_lfp HA.out.1 hs hr
      have HSh : Hid (∀ i j, i < n → j < n → M.Sm 1000001000000 (M.shf (M.ent R) num den i j)) := fun i j hi hj => M.shf_sm (M.near_rat hr) (r4 i j hi hj)
      have HLB : Hid (∀ k, k < n → M.Big ((M.zerosL n).getD k 0)) := fun k _ => by rw [M.zeros_at]; exact .inr (by omega)
      have hmk := run_make_row' (P := Tryz.prog) 28 2 (.int .i64 0) 8 Tryz.underlying28 info64 rfl .i64 .i64 n (by omega) (by omega)
      obtain ⟨np, hnp⟩ : ∃ np, np = M.noPos (M.ent (M.mk n n (M.shf (M.ent R) num den))) n := ⟨_, rfl⟩
      -- the list that is told is finite exactly if it holds values
      have HF : Hid (np = true → (M.applyM (M.starM (M.mk n n (M.shf (M.ent R) num den)) n) (M.zerosL n)).all M.isFin = M.isVec (M.applyM (M.starM (M.mk n n (M.shf (M.ent R) num den)) n) (M.zerosL n))) := fun hp => by
        rw [hnp, M.noPos_mk] at hp
        have hl := HA.out.1
        have e : M.applyM (M.starM (M.mk n n (M.shf (M.ent R) num den)) n) (M.zerosL n) = M.potL R num den := by unfold M.potL M.shM; rw [hl]
        rw [e, M.isVec_all (by rw [M.pot_len, hl]; exact n1) (by rw [M.pot_len, hl]; exact n2), Bool.eq_iff_iff, List.all_eq_true, List.all_eq_true]
        refine ⟨fun k x hx => M.isVal_of_fin (k x hx), fun k x hx => ?_⟩
        have hv := M.isVal_t (k x hx)
        obtain ⟨i, hi, rfl⟩ := List.mem_iff_getElem.1 hx
        have h1 := (M.pot_sm hs hr (by rw [hl]; exact hp) (i := i) (by rw [← M.pot_len R num den]; exact hi)).2.1
        have e2 : (M.potL R num den).getD i 0 = (M.potL R num den)[i] := by simp [hi]
        rw [e2] at h1
        simp [M.isFin]; omega
      obtain ⟨P, hP⟩ : ∃ P, P = M.mk n n (M.shf (M.ent R) num den) := ⟨_, rfl⟩
      have HP := Lib.hid hP
      obtain ⟨z, hzd⟩ : ∃ z, z = M.zerosL n := ⟨_, rfl⟩
      have HZd : Hid (((List.range n).map fun _ => (0 : Int)) = z) := by show _ = _; rw [hzd]; exact M.zeros_made n
      rw [← hP, ← hzd] at HE HF
      rw [← hzd] at HLB
      rw [← hP] at hnp
      have HNp := Lib.hid hnp
      clear h hs hr r1 r4 hP hzd hnp
      go_enter Tryz.func24, Tryz.ntmps24
      go_wp2_with fail
      simp only [← hwd] at *
      clear hwd
      refine (sSquare_b _ _ _ R _ true HS.out HA.out).mono ?_
      rintro e w' ⟨rfl, qd, rfl⟩
      obtain ⟨p0, p1⟩ := HX.out.cells (b_draws w qd)
      go_wp2_with fail
      refine (sIsRatio_b _ _ true HR.out _).mono ?_
      rintro e w1 ⟨rfl, hb1⟩
      have HB1 := Lib.hid ((b_draws w qd).trans hb1)
      obtain ⟨p0, p1⟩ := HX.out.cells HB1.out
      clear hb1
      go_wp2_with fail
      refine (sShift _ _ _ R _ _ _ (HA.out.below HB1.out) HQ.out n1 n2 HSm.out (M.near_rat HR.out)).mono ?_
      rintro e w2 ⟨a2, cap2, rfl, hO, hb⟩
      have hq := sq_shift hO.mat HSh.out n1 n2
      rw [← HP.out] at hO hq
      have HQ2 := Lib.hid hq
      have HB2 := Lib.hid (bnext HB1.out hb)
      clear hO hb hq
      go_wp2_with fail
      refine (sStar _ _ _ P _ HQ2.out).mono ?_
      rintro e w3 ⟨b3, c3, rfl, hO, hb⟩
      rw [← HNp.out]
      have HO := Lib.hid hO
      have HB3 := Lib.hid (bnext HB2.out hb)
      clear hO hb
      cases np with
      | true =>
        have hO2 := HO.out
        rw [M.bm_star n2 HQ2.out.2.2.1 HNp.out.symm] at hO2
        have HO2 := Lib.hid hO2
        have HSB : Hid (∀ i j, i < n → j < n → M.Big (M.ent (M.starM P n) i j)) := fun i j hi hj => M.star_big n2 HQ2.out.2.2.1 HNp.out.symm hi hj
        obtain ⟨b, hb⟩ : ∃ b, b = M.isVec (M.applyM (M.starM P n) z) := ⟨_, rfl⟩
        have HM : Hid ((M.applyM (M.starM P n) z).all M.isFin = b) := by show _ = _; rw [hb]; exact HF.out rfl
        have HEE : Hid (M.potRes R num den = if b then (M.applyM (M.starM P n) z, 0) else ([], 3)) := by
          show _ = _; rw [HE.out, hb]; unfold M.lfpL; rw [← HNp.out]; rfl
        clear hO2 hb HO HF HE
        cases b with
        | true =>
          go_wp2_with fail
          refine (sApplyB _ _ _ _ _ _ _ z _ (HO2.out.mat.below (b_alloc _ _)) (by have := (own_made w3 0 n (Nat.zero_le _) (by unfold maxLen; omega)).ints'; rw [HZd.out] at this; exact this) (rect_mk _ _ _) HSB.out HLB.out n2 n1 n2).mono ?_
          rintro e w4 ⟨b4, c4, rfl, hx, hb⟩
          have HB4 := Lib.hid (HB3.out.trans ((bel1 hb).mono HB3.out.size))
          have HX4 := Lib.hid (hx.mono (B' := w0.heap.size) (by have := HB3.out.size; have := HZ.out; simp; omega))
          clear hx hb hmk
          go_wp2_with fail
          refine (sAllF_b _ _ _ _ true HM.out _ HX4.out.ints').mono ?_
          rintro e w' ⟨rfl, rfl⟩
          go_wp2
          go_ret2
          rw [HEE.out]
          exact ⟨_, _, _, rfl, HX4.out, HX.out.trans HB4.out⟩
        | false =>
          go_wp2_with fail
          refine (sApplyB _ _ _ _ _ _ _ z _ (HO2.out.mat.below (b_alloc _ _)) (by have := (own_made w3 0 n (Nat.zero_le _) (by unfold maxLen; omega)).ints'; rw [HZd.out] at this; exact this) (rect_mk _ _ _) HSB.out HLB.out n2 n1 n2).mono ?_
          rintro e w4 ⟨b4, c4, rfl, hx, hb⟩
          have HB4 := Lib.hid (HB3.out.trans ((bel1 hb).mono HB3.out.size))
          have HX4 := Lib.hid (hx.mono (B' := w0.heap.size) (by have := HB3.out.size; have := HZ.out; simp; omega))
          clear hx hb hmk
          go_wp2_with fail
          refine (sAllF_b _ _ _ _ false HM.out _ HX4.out.ints').mono ?_
          rintro e w' ⟨rfl, rfl⟩
          go_wp2
          go_ret2
          exact VRes.nil HEE.out (HX.out.trans HB4.out)
      | false =>
        have HEE : Hid (M.potRes R num den = ([], 5)) := by
          show _ = _; rw [HE.out]; unfold M.lfpL; rw [← HNp.out]; rfl
        go_wp2
        go_ret2
        exact VRes.nil HEE.out (HX.out.trans HB3.out)
    · simp only [Bool.not_eq_true] at hr
      have HR := Lib.hid hr
      have HE : Hid (M.potRes R num den = ([], 1)) := by show _ = _; unfold M.potRes; rw [hs, hr]; rfl
      clear h hs hr
      go_enter Tryz.func24, Tryz.ntmps24
      go_wp2_with fail
      simp only [← hwd] at *
      clear hwd
      refine (sSquare_b _ _ _ R _ true HS.out HA.out).mono ?_
      rintro e w' ⟨rfl, qd, rfl⟩
      obtain ⟨p0, p1⟩ := HX.out.cells (b_draws w qd)
      go_wp2_with fail
      refine (sIsRatio_b _ _ false HR.out _).mono ?_
      rintro e w1 ⟨rfl, hb1⟩
      have HB1 := Lib.hid (HX.out.trans ((b_draws w qd).trans hb1))
      clear hb1
      go_wp2
      go_ret2
      exact VRes.nil HE.out HB1.out
  · simp only [Bool.not_eq_true] at hs
    have HS := Lib.hid hs
    have HE : Hid (M.potRes R num den = ([], 1)) := by show _ = _; unfold M.potRes; rw [hs]; rfl
    clear h hs
    go_enter Tryz.func24, Tryz.ntmps24
    go_wp2_with fail
    simp only [← hwd] at *
    clear hwd
    refine (sSquare_b _ _ _ R _ false HS.out HA.out).mono ?_
    rintro e w' ⟨rfl, qd, rfl⟩
    go_wp2
    go_ret2
    exact VRes.nil HE.out (HX.out.trans (b_draws w qd))
end V
end Go.Proofs.YtmhpgnndjagogaaGreat

namespace Go.Proofs.YtmhpgnndjagogaaGreat
namespace M
theorem apply_at (R : List (List Int)) (l : List Int) {i : Nat} (hi : i < R.length) : (applyM R l).getD i 0 = dotV R l i l.length := by
  unfold applyM
  rw [List.getD_eq_getElem?_getD, List.getElem?_map, List.getElem?_range hi]; rfl
theorem isPotB_of {R : List (List Int)} {a b : Int} {x : List Int} (hs : sqB R = true) (hr : isRat a b = true) (hl : x.length = R.length) (hf : x.all isFin = true) :
    isPotB R a b x = (List.range R.length).all fun i => decide ((applyM (mk R.length R.length (shf (ent R) a b)) x).getD i 0 ≤ x.getD i 0) := by
  unfold isPotB holdsB
  rw [hs, hr, hf, decide_eq_true hl]
  have e : ∀ i, i < R.length → (applyM (mk R.length R.length (shf (ent R) a b)) x).getD i 0 = sumN R.length fun j => times (shf (ent R) a b i j) (x.getD j 0) := fun i hi => by
    rw [apply_at _ _ (by rw [mk_length]; exact hi), hl]
    unfold dotV
    exact sumN_congr fun j hj => by rw [ent_mk _ _ _ _ _ hi hj]
  simp only [Bool.true_and]
  rw [Bool.eq_iff_iff, List.all_eq_true, List.all_eq_true]
  constructor
  · intro h i hi; rw [e i (List.mem_range.1 hi)]; exact h i hi
  · intro h i hi; rw [← e i (List.mem_range.1 hi)]; exact h i hi
theorem isPotB_no {R : List (List Int)} {a b : Int} {x : List Int} (h : ¬ (x.length = R.length ∧ x.all isFin = true)) : isPotB R a b x = false := by
  unfold isPotB holdsB
  by_cases h1 : x.length = R.length
  · have h2 : x.all isFin = false := by
      cases e : x.all isFin with
      | false => rfl
      | true => exact absurd ⟨h1, e⟩ h
    rw [h2]; simp
  · rw [decide_eq_false h1]; simp
end M
namespace V
open Go.RowKit
set_option maxRecDepth 100000 in
set_option maxHeartbeats 400000 in
theorem indexI (a : Option Addr) (n cap : Nat) (l : List Int) (x : Int) (w : World) (h : Ints .i64 w a n l) :
    Calls Tryz.prog 141 #[.slice a n cap, .int .i64 x] w fun e w' => ∃ k : Int, e = .returned (.int .i64 k) ∧ (0 ≤ k ↔ x ∈ l) ∧ w = w' := by
  obtain ⟨hl, hm, hr⟩ := h
  unfold maxLen at hm
  have HL := Lib.hid hl
  clear hl
  go_enter Tryz.func141, Tryz.ntmps141
  go_wp2
  go_loop [5, 8] (fun _ i => ∃ k : Nat, k ≤ n ∧ i = .int .i64 k ∧ Hid (∀ i, i < k → l.getD i 0 ≠ x)) (fun _ i => n - (intOf i).toNat)
  case atStart => exact ⟨0, Nat.zero_le _, rfl, fun i hi => absurd hi (Nat.not_lt_zero i)⟩
  case round =>
    obtain ⟨k, hk, rfl, HK⟩ := hrel
    by_cases hlt : k < n
    · have hki : (k : Int) < (n : Int) := by omega
      rcases hr with h0 | ⟨b, off, rfl, hbl, hc⟩
      · omega
      · have hck := hc k hlt
        obtain ⟨y, hy⟩ : ∃ y, y = l.getD k 0 := ⟨_, rfl⟩
        rw [← hy] at hck
        have HY := Lib.hid hy
        clear hc hy
        by_cases hxy : x = y
        · have HM : Hid (x ∈ l) := by
            show _ ∈ _
            rw [hxy, HY.out]
            have hkl : k < l.length := by have := HL.out; omega
            rw [List.getD_eq_getElem?_getD, List.getElem?_eq_getElem hkl]
            exact List.getElem_mem hkl
          subst hxy
          go_wp2
          go_ret
          exact ⟨_, rfl, ⟨fun _ => HM.out, fun _ => by omega⟩, rfl⟩
        · have hxy2 : (x == y) = false := by simpa using hxy
          have HK2 : Hid (∀ i, i < k + 1 → l.getD i 0 ≠ x) := fun i hi => by
            by_cases e : i = k
            · subst e; rw [← HY.out]; exact fun e => hxy e.symm
            · exact HK.out i (by omega)
          go_wp2
          go_round
          case rel => exact ⟨k + 1, by omega, by go_num, HK2⟩
          case measure => simp [intOf]; omega
    · obtain rfl : k = n := by omega
      have HN : Hid (¬ x ∈ l) := fun hm => by
        obtain ⟨i, hi, rfl⟩ := List.mem_iff_getElem.1 hm
        have := HK.out i (by have := HL.out; omega)
        rw [List.getD_eq_getElem?_getD, List.getElem?_eq_getElem hi] at this
        exact this rfl
      clear hr
      go_wp2
      go_ret
      exact ⟨_, rfl, ⟨fun h => by omega, fun h => absurd h HN.out⟩, rfl⟩
set_option maxRecDepth 100000 in
set_option maxHeartbeats 400000 in
theorem containsI (a : Option Addr) (n cap : Nat) (l : List Int) (x : Int) (b : Bool) (w : World) (h : Ints .i64 w a n l) (hb : b = true ↔ x ∈ l) :
    Calls Tryz.prog 78 #[.slice a n cap, .int .i64 x] w fun e w' => e = .returned (.bool b) ∧ w = w' := by
  have HI := Lib.hid h
  have HB := Lib.hid hb
  clear h hb
  go_enter Tryz.func78, Tryz.ntmps78
  go_wp2_with fail
  refine (indexI _ _ _ l _ _ HI.out).mono ?_
  rintro e w' ⟨k, rfl, hk, rfl⟩
  have HK : Hid (decide (0 ≤ k) = b) := by
    show _ = _
    rw [Bool.eq_iff_iff, decide_eq_true_eq, hk, HB.out]
  clear hk
  go_wp2
  go_ret
  exact ⟨retB HK.out, rfl⟩
theorem vec_fin {l : List Int} (hv : M.isVec l = true) {b : Bool} (hb : l.all M.isFin = b) : (!b) = true ↔ (-1000000000000000 : Int) ∈ l := by
  subst hb
  rw [Bool.not_eq_true', ← Bool.not_eq_true, List.all_eq_true]
  constructor
  · intro h
    apply Classical.byContradiction
    intro hn
    apply h
    intro x hx
    obtain ⟨i, hi, rfl⟩ := List.mem_iff_getElem.1 hx
    have := M.isVal_t ((M.isVec_t hv).2.2 i hi)
    simp only [List.getD_eq_getElem?_getD, List.getElem?_eq_getElem hi, Option.getD_some] at this
    rcases this with e | e
    · rw [e] at hx; exact absurd hx hn
    · simp [M.isFin]; omega
  · intro h k
    have := k _ h
    exact absurd this (by decide)
end V
end Go.Proofs.YtmhpgnndjagogaaGreat

namespace Go.Proofs.YtmhpgnndjagogaaGreat
namespace M
def okArc (P : Nat → Nat → Int) (x : List Int) (i k : Nat) : Prop := P i k = -1000000000000000 ∨ P i k + x.getD k 0 ≤ x.getD i 0
theorem holdsB_of {R : List (List Int)} {a b : Int} {x : List Int} (hl : x.length = R.length) (hf : x.all isFin = true) :
    holdsB R a b x = true ↔ ∀ i, i < R.length → ∀ k, k < R.length → okArc (shf (ent R) a b) x i k := by
  unfold holdsB
  rw [hf, decide_eq_true hl]
  simp only [Bool.true_and, Bool.and_true, List.all_eq_true, List.mem_range, decide_eq_true_eq]
  have hfin : ∀ k, k < R.length → -1000000 ≤ x.getD k 0 ∧ x.getD k 0 ≤ 1000000 := fun k hk => by
    have hk' : k < x.length := by omega
    have := List.all_eq_true.1 hf x[k] (List.getElem_mem hk')
    rw [List.getD_eq_getElem?_getD, List.getElem?_eq_getElem hk']
    exact isFin_t this
  have ht : ∀ i k, k < R.length → times (shf (ent R) a b i k) (x.getD k 0) = if shf (ent R) a b i k = -1000000000000000 then -1000000000000000 else shf (ent R) a b i k + x.getD k 0 := fun i k hk => by
    have := hfin k hk
    unfold times
    by_cases e : shf (ent R) a b i k = -1000000000000000
    · rw [if_pos (.inl e), if_pos e]
    · rw [if_neg (by rintro (h | h) <;> omega), if_neg e]
  constructor
  · intro h i hi k hk
    have h1 := sum_ge (f := fun j => times (shf (ent R) a b i j) (x.getD j 0)) hk
    have h2 := h i hi
    have h1 : times (shf (ent R) a b i k) (x.getD k 0) ≤ _ := h1
    rw [ht i k hk] at h1
    by_cases e : shf (ent R) a b i k = -1000000000000000
    · exact .inl e
    · rw [if_neg e] at h1; exact .inr (Int.le_trans h1 h2)
  · intro h i hi
    have := hfin i hi
    refine sum_le (by omega) fun k hk => ?_
    show times (shf (ent R) a b i k) (x.getD k 0) ≤ _
    rw [ht i k hk]
    rcases h i hi k hk with e | e
    · rw [if_pos e]; omega
    · by_cases e2 : shf (ent R) a b i k = -1000000000000000
      · rw [if_pos e2]; omega
      · rw [if_neg e2]; exact e
end M
namespace V
open Go.RowKit
set_option maxRecDepth 100000 in
set_option maxHeartbeats 4000000 in
theorem sHolds (a : Option Addr) (n cap : Nat) (R : List (List Int)) (num den : Int) (a' : Option Addr) (N cap' : Nat) (l : List Int) (w0 : World) (h : Mat w0 a n R) (h' : Ints .i64 w0 a' N l) (hs : M.sqB R = true) (hr : M.isRat num den = true) :
    Calls Tryz.prog 80 #[.slice a n cap, .agg #[.int .i64 num, .int .i64 den], .slice a' N cap'] w0 fun e w' => e = .returned (.bool (M.holdsB R num den l)) ∧ Below w0.heap.size w0 w' := by
  obtain ⟨w, hwd⟩ : ∃ w, w = w0.alloc (rbox num den) := ⟨_, rfl⟩
  have HX : Hid (Boxed w0 w num den) := by show Boxed _ _ _ _; rw [hwd]; exact boxed _ _ _
  have HA : Hid (Mat w a n R) := h.below HX.out.below
  have HI : Hid (Ints .i64 w a' N l) := h'.below HX.out.below
  have HL := Lib.hid h'.1
  have HZ := Lib.hid HX.out.size
  obtain ⟨c0, c1⟩ := HX.out.cells (Below.refl _ _)
  obtain ⟨r1, n1, n2, r4⟩ := sq_parts HA.out hs
  have HQ := Lib.hid r1
  have HSm := Lib.hid r4
  have HR := Lib.hid hr
  have HSh : Hid (∀ i j, i < n → j < n → M.Sm 1000001000000 (M.shf (M.ent R) num den i j)) := fun i j hi hj => M.shf_sm (M.near_rat hr) (r4 i j hi hj)
  have HRl := Lib.hid HA.out.1
  by_cases hN : N = n
  · subst hN
    obtain ⟨b, hb⟩ : ∃ b, b = l.all M.isFin := ⟨_, rfl⟩
    have HF := Lib.hid hb.symm
    cases b with
    | true =>
      have HE : Hid (M.holdsB R num den l = true ↔ ∀ i, i < N → ∀ k, k < N → M.okArc (M.shf (M.ent R) num den) l i k) := by
        show _ ↔ _
        have := M.holdsB_of (a := num) (b := den) (show l.length = R.length by rw [HRl.out]; exact HL.out) hb.symm
        rw [HRl.out] at this
        exact this
      have HFin : Hid (∀ k, k < N → -1000000 ≤ l.getD k 0 ∧ l.getD k 0 ≤ 1000000) := fun k hk => by
        have hk' : k < l.length := by have := HL.out; omega
        have := List.all_eq_true.1 hb.symm l[k] (List.getElem_mem hk')
        rw [List.getD_eq_getElem?_getD, List.getElem?_eq_getElem hk']
        exact M.isFin_t this
      clear h h' hs hr r1 r4 hb
      go_enter Tryz.func80, Tryz.ntmps80
      go_wp2_with fail
      simp only [← hwd] at *
      clear hwd
      refine (sAllF_b _ _ _ l true HF.out _ HI.out).mono ?_
      rintro e w' ⟨rfl, rfl⟩
      go_wp2_with fail
      refine (sShift _ _ _ R _ _ _ HA.out HQ.out n1 n2 HSm.out (M.near_rat HR.out)).mono ?_
      rintro e w2 ⟨a2, cap2, rfl, hO, hb⟩
      obtain ⟨g, -, -, -, -, rfl, -⟩ := hO.tri (rect_mk _ _ _) 0 0 0 (by omega) (by omega) (by omega)
      have HO := Lib.hid hO
      have HB := Lib.hid (HX.out.trans hb)
      have HIl := Lib.hid (HI.out.below hb)
      clear hO hb
      obtain ⟨lb, lo, l0, rfl, -, -, -⟩ := HIl.out.at 0 (by omega)
      go_wp2
      go_loopw [8] (fun i wr => ∃ s : Nat, s ≤ N ∧ i = .int .i64 s ∧ Hid (∀ i, i < s → ∀ k, k < N → M.okArc (M.shf (M.ent R) num den) l i k) ∧ ∃ qd, wr = w2.drewN qd) (fun i _ => N - (intOf i).toNat)
      case atStart => exact ⟨0, Nat.zero_le _, rfl, fun i hi => absurd hi (Nat.not_lt_zero i), 0, rfl⟩
      case round =>
        obtain ⟨s, hs, rfl, HK, qd, rfl⟩ := hrel
        by_cases hsl : s < N
        · have hsi : (s : Int) < (N : Int) := by omega
          go_wp2
          go_loopw [9] (fun j wr => ∃ t : Nat, t ≤ N ∧ j = .int .i64 t ∧ Hid (∀ k, k < t → M.okArc (M.shf (M.ent R) num den) l s k) ∧ ∃ qd, wr = w2.drewN qd) (fun j _ => N - (intOf j).toNat)
          case atStart => exact ⟨0, Nat.zero_le _, rfl, fun i hi => absurd hi (Nat.not_lt_zero i), _, rfl⟩
          case round =>
            obtain ⟨t, ht, rfl, HJ, qe, rfl⟩ := hrel
            by_cases htl : t < N
            · have hti : (t : Int) < (N : Int) := by omega
              obtain ⟨g2, q, c, q', c', hgg, hq, h1, h2, -, -, -, -, -⟩ := HO.out.tri (rect_mk _ _ _) s t t hsl htl htl
              injection hgg with hgg
              injection hgg with hgg
              subst hgg
              rw [M.ent_mk _ _ _ _ _ hsl htl] at h2
              obtain ⟨d1, d2, u, hd, -, hu, cu⟩ := HIl.out.at t htl
              injection hd with hd
              injection hd with e1 e2
              subst e1 e2
              obtain ⟨d1, d2, v, hd, -, hv, cv⟩ := HIl.out.at s hsl
              injection hd with hd
              injection hd with e1 e2
              subst e1 e2
              have hfu := HFin.out t htl
              have hfv := HFin.out s hsl
              rw [← hu] at hfu
              rw [← hv] at hfv
              have HU := Lib.hid hu
              have HVv := Lib.hid hv
              obtain ⟨z, hz⟩ : ∃ z, z = M.shf (M.ent R) num den s t := ⟨_, rfl⟩
              rw [← hz] at h2
              have hzs := HSh.out s t hsl htl
              rw [← hz] at hzs
              unfold M.Sm at hzs
              have HZz := Lib.hid hz
              clear hu hv hz
              by_cases hzb : z = -1000000000000000
              · have HJ2 : Hid (∀ k, k < t + 1 → M.okArc (M.shf (M.ent R) num den) l s k) := fun k hk => by
                  by_cases e : k = t
                  · subst e; left; rw [← HZz.out, hzb]
                  · exact HJ.out k (by omega)
                subst hzb
                go_wp2
                go_quiet (fail)
                go_wp2
                go_roundw
                case rel => exact ⟨t + 1, by omega, by go_num, HJ2, _, by first | rfl | exact World.drewN_drewN _ _ _⟩
                case measure => simp [intOf]; omega
              · have hzn : (z != -1000000000000000) = true := by simpa using hzb
                have hzn2 : (z == -1000000000000000) = false := by simpa using hzb
                have e1 : IntKind.i64.wrap (z + u) = z + u := IntWalk.i64_in _ (by omega)
                by_cases hgt : v < z + u
                · have HFf : Hid (M.holdsB R num den l = false) := by
                    show _ = _
                    cases e : M.holdsB R num den l with
                    | false => rfl
                    | true =>
                      have := HE.out.1 e s hsl t htl
                      unfold M.okArc at this
                      rw [← HZz.out, ← HU.out, ← HVv.out] at this
                      omega
                  go_wp2
                  go_quiet (fail)
                  go_wp2
                  go_ret
                  exact ⟨retB HFf.out.symm, by first | exact below_drewN HB.out _ | exact below_drewN (below_drewN HB.out _) _⟩
                · have hgt2 : z + u ≤ v := by omega
                  have HJ2 : Hid (∀ k, k < t + 1 → M.okArc (M.shf (M.ent R) num den) l s k) := fun k hk => by
                    by_cases e : k = t
                    · subst e; right; rw [← HZz.out, ← HU.out, ← HVv.out]; exact hgt2
                    · exact HJ.out k (by omega)
                  go_wp2
                  go_quiet (fail)
                  go_wp2
                  go_roundw
                  case rel => exact ⟨t + 1, by omega, by go_num, HJ2, _, by first | rfl | exact World.drewN_drewN _ _ _⟩
                  case measure => simp [intOf]; omega
            · obtain rfl : t = N := by omega
              have HK2 : Hid (∀ i, i < s + 1 → ∀ k, k < t → M.okArc (M.shf (M.ent R) num den) l i k) := fun i hi k hk => by
                by_cases e : i = s
                · subst e; exact HJ.out k hk
                · exact HK.out i (by omega) k hk
              go_wp2
              go_roundw
              case rel => exact ⟨s + 1, by omega, by go_num, HK2, _, rfl⟩
              case measure => simp [intOf]; omega
        · obtain rfl : s = N := by omega
          have HT : Hid (M.holdsB R num den l = true) := HE.out.2 fun i hi k hk => HK.out i hi k hk
          go_wp2
          go_ret
          exact ⟨retB HT.out.symm, below_drewN HB.out _⟩
    | false =>
      have HE : Hid (M.holdsB R num den l = false) := by show _ = _; unfold M.holdsB; rw [← hb]; simp
      clear h h' hs hr r1 r4 hb
      go_enter Tryz.func80, Tryz.ntmps80
      go_wp2_with fail
      simp only [← hwd] at *
      clear hwd
      refine (sAllF_b _ _ _ l false HF.out _ HI.out).mono ?_
      rintro e w' ⟨rfl, rfl⟩
      go_wp2
      go_ret
      exact ⟨retB HE.out.symm, HX.out.below⟩
  · have HE : Hid (M.holdsB R num den l = false) := by
      show _ = _; unfold M.holdsB
      rw [decide_eq_false (fun e => hN (by rw [← HL.out, e, HRl.out]))]; simp
    have hne : ((N : Int) != (n : Int)) = true := by simp; omega
    have hne2 : ((N : Int) == (n : Int)) = false := by simp; omega
    have hne3 : (N == n) = false := by simpa using hN
    clear h h' hs hr r1 r4
    go_enter Tryz.func80, Tryz.ntmps80
    go_wp2
    try simp only [← hwd] at *
    go_ret
    exact ⟨retB HE.out.symm, HX.out.below⟩
set_option maxRecDepth 100000 in
set_option maxHeartbeats 2000000 in
theorem sIsPotential (a : Option Addr) (n cap : Nat) (R : List (List Int)) (num den : Int) (a' : Option Addr) (N cap' : Nat) (l : List Int) (w0 : World) (h : Mat w0 a n R) (h' : Ints .i64 w0 a' N l) :
    Calls Tryz.prog 30 #[.slice a n cap, .agg #[.int .i64 num, .int .i64 den], .slice a' N cap'] w0 fun e w' => e = .returned (.bool (M.isPotB R num den l)) ∧ Below w0.heap.size w0 w' := by
  obtain ⟨w, hwd⟩ : ∃ w, w = w0.alloc (rbox num den) := ⟨_, rfl⟩
  have HX : Hid (Boxed w0 w num den) := by show Boxed _ _ _ _; rw [hwd]; exact boxed _ _ _
  have HA : Hid (Mat w a n R) := h.below HX.out.below
  have HI : Hid (Ints .i64 w a' N l) := h'.below HX.out.below
  have HZ := Lib.hid HX.out.size
  by_cases hs : M.sqB R = true
  · have HS := Lib.hid hs
    by_cases hr : M.isRat num den = true
    · have HR := Lib.hid hr
      have HE : Hid (M.isPotB R num den l = M.holdsB R num den l) := by show _ = _; unfold M.isPotB; rw [hs, hr]; rfl
      clear h h' hs hr
      go_enter Tryz.func30, Tryz.ntmps30
      go_wp2_with fail
      simp only [← hwd] at *
      clear hwd
      refine (sSquare_b _ _ _ R _ true HS.out HA.out).mono ?_
      rintro e w' ⟨rfl, qd, rfl⟩
      obtain ⟨p0, p1⟩ := HX.out.cells (b_draws w qd)
      go_wp2_with fail
      refine (sIsRatio_b _ _ true HR.out _).mono ?_
      rintro e w1 ⟨rfl, hb1⟩
      have HB1 := Lib.hid ((b_draws w qd).trans hb1)
      obtain ⟨p0, p1⟩ := HX.out.cells HB1.out
      clear hb1
      go_wp2_with fail
      refine (sHolds _ _ _ R _ _ _ _ _ l _ (HA.out.below HB1.out) (HI.out.below HB1.out) HS.out HR.out).mono ?_
      rintro e w2 ⟨rfl, hb⟩
      have HB2 := Lib.hid (HX.out.trans (bnext HB1.out hb))
      clear hb
      go_wp2
      go_ret
      exact ⟨retB HE.out.symm, HB2.out⟩
    · simp only [Bool.not_eq_true] at hr
      have HR := Lib.hid hr
      have HE : Hid (M.isPotB R num den l = false) := by show _ = _; unfold M.isPotB; rw [hs, hr]; rfl
      clear h h' hs hr
      go_enter Tryz.func30, Tryz.ntmps30
      go_wp2_with fail
      simp only [← hwd] at *
      clear hwd
      refine (sSquare_b _ _ _ R _ true HS.out HA.out).mono ?_
      rintro e w' ⟨rfl, qd, rfl⟩
      obtain ⟨p0, p1⟩ := HX.out.cells (b_draws w qd)
      go_wp2_with fail
      refine (sIsRatio_b _ _ false HR.out _).mono ?_
      rintro e w1 ⟨rfl, hb1⟩
      have HB1 := Lib.hid (HX.out.trans ((b_draws w qd).trans hb1))
      clear hb1
      go_wp2
      go_ret
      exact ⟨retB HE.out.symm, HB1.out⟩
  · simp only [Bool.not_eq_true] at hs
    have HS := Lib.hid hs
    have HE : Hid (M.isPotB R num den l = false) := by show _ = _; unfold M.isPotB; rw [hs]; rfl
    clear h h' hs
    go_enter Tryz.func30, Tryz.ntmps30
    go_wp2_with fail
    simp only [← hwd] at *
    clear hwd
    refine (sSquare_b _ _ _ R _ false HS.out HA.out).mono ?_
    rintro e w' ⟨rfl, qd, rfl⟩
    go_wp2
    go_ret
    exact ⟨retB HE.out.symm, HX.out.trans (b_draws w qd)⟩
end V
end Go.Proofs.YtmhpgnndjagogaaGreat

namespace Go.Proofs.YtmhpgnndjagogaaGreat
namespace V
open Go.RowKit
theorem M.ext_at {l l' : List Int} {n : Nat} (h1 : l.length = n) (h2 : l'.length = n) (h : ∀ i, i < n → l.getD i 0 = l'.getD i 0) : l = l' := by
  apply List.ext_getElem (by omega)
  intro k k1 k2
  have := h k (by omega)
  simpa [k1, k2] using this
set_option maxRecDepth 100000 in
set_option maxHeartbeats 400000 in
theorem slicesEqual (a : Option Addr) (n cap : Nat) (y : List Int) (a' : Option Addr) (cap' : Nat) (x : List Int) (w : World) (h : Ints .i64 w a n y) (h' : Ints .i64 w a' n x) (hn : n ≤ 1000) :
    Calls Tryz.prog 101 #[.slice a n cap, .slice a' n cap'] w fun e w' => e = .returned (.bool (decide (y = x))) ∧ ∃ q, w' = w.drewN q := by
  have HY := Lib.hid h
  have HXx := Lib.hid h'
  have HL := Lib.hid h.1
  have HL' := Lib.hid h'.1
  clear h h'
  go_enter Tryz.func101, Tryz.ntmps101
  go_wp2
  go_loopw [5, 13] (fun _ i wr => ∃ k : Nat, k ≤ n ∧ i = .int .i64 k ∧ Hid (∀ i, i < k → y.getD i 0 = x.getD i 0) ∧ ∃ q, wr = w.drewN q) (fun _ i _ => n - (intOf i).toNat)
  case atStart => exact ⟨0, Nat.zero_le _, rfl, fun i hi => absurd hi (Nat.not_lt_zero i), 0, rfl⟩
  case round =>
    obtain ⟨k, hk, rfl, HK, q, rfl⟩ := hrel
    by_cases hlt : k < n
    · have hki : (k : Int) < (n : Int) := by omega
      obtain ⟨d1, d2, u, rfl, -, hu, cu⟩ := HY.out.at k hlt
      obtain ⟨d3, d4, v, rfl, -, hv, cv⟩ := HXx.out.at k hlt
      have HU := Lib.hid hu
      have HV := Lib.hid hv
      clear hu hv
      by_cases hgt : u = v
      · have HK2 : Hid (∀ i, i < k + 1 → y.getD i 0 = x.getD i 0) := fun i hi => by
          by_cases e : i = k
          · subst e; rw [← HU.out, ← HV.out]; exact hgt
          · exact HK.out i (by omega)
        have hb : (u != v) = false := by simp [hgt]
        clear hgt
        go_wp2
        go_quiet (fail)
        go_wp2
        go_roundw
        case rel => exact ⟨k + 1, by omega, by go_num, HK2, _, rfl⟩
        case measure => simp [intOf]; omega
      · have HF : Hid (decide (y = x) = false) := decide_eq_false fun e => hgt (by rw [HU.out, HV.out, e])
        have hb : (u != v) = true := by simpa using hgt
        go_wp2
        go_quiet (fail)
        go_wp2
        go_ret
        exact ⟨retB HF.out.symm, _, World.drewN_drewN _ _ _⟩
    · obtain rfl : k = n := by omega
      have HF : Hid (decide (y = x) = true) := decide_eq_true (M.ext_at HL.out HL'.out HK.out)
      go_wp2
      go_ret
      exact ⟨retB HF.out.symm, _, rfl⟩
set_option maxRecDepth 100000 in
set_option maxHeartbeats 1000000 in
theorem isEigenVector (a : Option Addr) (n cap : Nat) (R : List (List Int)) (num den : Int) (a' : Option Addr) (N cap' : Nat) (l : List Int) (w0 : World) (h : Mat w0 a n R) (h' : Ints .i64 w0 a' N l) :
    Calls Tryz.prog 44 #[.slice a n cap, .agg #[.int .i64 num, .int .i64 den], .slice a' N cap'] w0 fun e w' => e = .returned (.bool (M.eigB R num den l)) ∧ Below w0.heap.size w0 w' := by
  obtain ⟨w, hwd⟩ : ∃ w, w = w0.alloc (rbox num den) := ⟨_, rfl⟩
  have HX : Hid (Boxed w0 w num den) := by show Boxed _ _ _ _; rw [hwd]; exact boxed _ _ _
  have HA : Hid (Mat w a n R) := h.below HX.out.below
  have HI : Hid (Ints .i64 w a' N l) := h'.below HX.out.below
  have HL := Lib.hid h'.1
  have HRn := Lib.hid h.1
  have HZ := Lib.hid HX.out.size
  obtain ⟨c0, c1⟩ := HX.out.cells (Below.refl _ _)
  obtain ⟨b, hb⟩ : ∃ b, b = M.imgB R num den l := ⟨_, rfl⟩
  have HB := Lib.hid hb.symm
  cases b with
  | false =>
    have HE : Hid (M.eigB R num den l = false) := by show _ = _; unfold M.eigB; rw [← hb]; rfl
    clear h h' hb
    go_enter Tryz.func44, Tryz.ntmps44
    go_wp2_with fail
    simp only [← hwd] at *
    clear hwd
    refine (shiftedImage _ _ _ R _ _ _ _ _ l _ HA.out HI.out).mono ?_
    rintro e w1 ⟨b1, m, c, rfl, ho, hb⟩
    rw [HB.out]
    have HB1 := Lib.hid (HX.out.trans hb)
    clear ho hb
    go_wp2
    go_ret
    exact ⟨retB HE.out.symm, HB1.out⟩
  | true =>
    obtain ⟨y, hy⟩ : ∃ y, y = M.imgL R num den l := ⟨_, rfl⟩
    have HE : Hid (M.eigB R num den l = decide (y = l)) := by show _ = _; unfold M.eigB; rw [← hb, hy]; rfl
    have HY : Hid (M.imgR R num den l = y) := by show _ = _; rw [M.imgR_t hb.symm, hy]
    have hyl : y.length = N := by rw [hy, M.imgL_len, h.1, ← (M.cmpOk_t (by rw [M.imgB_cmp, eq_comm, Bool.and_eq_true] at hb; exact hb.1)).2.2.2.trans h.1, h'.1]
    have hN10 : N ≤ 1000 := by
      have := M.cmpOk_t (R := R) (a := num) (b := den) (x := l) (by rw [M.imgB_cmp, eq_comm, Bool.and_eq_true] at hb; exact hb.1)
      have h2 := (M.isVec_t this.2.2.1).2.1
      rw [h'.1] at h2; omega
    have HYl := Lib.hid hyl
    clear h h' hb hy hyl
    go_enter Tryz.func44, Tryz.ntmps44
    go_wp2_with fail
    simp only [← hwd] at *
    clear hwd
    refine (shiftedImage _ _ _ R _ _ _ _ _ l _ HA.out HI.out).mono ?_
    rintro e w1 ⟨b1, m, c, rfl, ho, hb⟩
    rw [HB.out]
    rw [HY.out] at ho
    obtain rfl : m = N := by rw [ho.len, HYl.out]
    have HO := Lib.hid ho.ints'
    have HB1 := Lib.hid (HX.out.trans hb)
    have HI1 := Lib.hid (HI.out.below hb)
    clear ho hb
    go_wp2_with fail
    refine (slicesEqual _ _ _ y _ _ l _ HO.out HI1.out hN10).mono ?_
    rintro e w' ⟨rfl, q, rfl⟩
    go_wp2
    go_ret
    exact ⟨retB HE.out.symm, below_drewN HB1.out _⟩
set_option maxRecDepth 100000 in
set_option maxHeartbeats 1000000 in
theorem isPotential (a : Option Addr) (n cap : Nat) (R : List (List Int)) (num den : Int) (a' : Option Addr) (N cap' : Nat) (l : List Int) (w0 : World) (h : Mat w0 a n R) (h' : Ints .i64 w0 a' N l) :
    Calls Tryz.prog 29 #[.slice a n cap, .agg #[.int .i64 num, .int .i64 den], .slice a' N cap'] w0 fun e w' => e = .returned (.bool (M.isPotB R num den l)) ∧ Below w0.heap.size w0 w' := by
  obtain ⟨w, hwd⟩ : ∃ w, w = w0.alloc (rbox num den) := ⟨_, rfl⟩
  have HX : Hid (Boxed w0 w num den) := by show Boxed _ _ _ _; rw [hwd]; exact boxed _ _ _
  have HA : Hid (Mat w a n R) := h.below HX.out.below
  have HI : Hid (Ints .i64 w a' N l) := h'.below HX.out.below
  have HL := Lib.hid h'.1
  have HRn := Lib.hid h.1
  have HZ := Lib.hid HX.out.size
  obtain ⟨c0, c1⟩ := HX.out.cells (Below.refl _ _)
  obtain ⟨b, hb⟩ : ∃ b, b = M.imgB R num den l := ⟨_, rfl⟩
  have HB := Lib.hid hb.symm
  cases b with
  | false =>
    have HE : Hid (M.isPotB R num den l = false) := by show _ = _; rw [M.pot_img, ← hb]; rfl
    clear h h' hb
    go_enter Tryz.func29, Tryz.ntmps29
    go_wp2_with fail
    simp only [← hwd] at *
    clear hwd
    refine (shiftedImage _ _ _ R _ _ _ _ _ l _ HA.out HI.out).mono ?_
    rintro e w1 ⟨b1, m, c, rfl, ho, hb⟩
    rw [HB.out]
    have HB1 := Lib.hid (HX.out.trans hb)
    clear ho hb
    go_wp2
    go_ret
    exact ⟨retB HE.out.symm, HB1.out⟩
  | true =>
    obtain ⟨y, hy⟩ : ∃ y, y = M.imgL R num den l := ⟨_, rfl⟩
    obtain ⟨d, hd⟩ : ∃ d, d = l.any fun v => decide (v = -1000000000000000) := ⟨_, rfl⟩
    have HD : Hid (d = true ↔ (-1000000000000000 : Int) ∈ l) := by
      show _ ↔ _
      rw [hd, List.any_eq_true]
      exact ⟨fun ⟨x, hx, e⟩ => by rw [decide_eq_true_eq] at e; rw [← e]; exact hx, fun h => ⟨_, h, by simp⟩⟩
    have HE : Hid (M.isPotB R num den l = (!d && M.atMostB y l)) := by show _ = _; rw [M.pot_img, ← hb, hy, hd]; rfl
    have HY : Hid (M.imgR R num den l = y) := by show _ = _; rw [M.imgR_t hb.symm, hy]
    have hyl : y.length = N := by rw [hy, M.imgL_len, h.1, ← (M.cmpOk_t (by rw [M.imgB_cmp, eq_comm, Bool.and_eq_true] at hb; exact hb.1)).2.2.2.trans h.1, h'.1]
    have hN10 : N ≤ 1000 := by
      have := M.cmpOk_t (R := R) (a := num) (b := den) (x := l) (by rw [M.imgB_cmp, eq_comm, Bool.and_eq_true] at hb; exact hb.1)
      have h2 := (M.isVec_t this.2.2.1).2.1
      rw [h'.1] at h2; omega
    have HYl := Lib.hid hyl
    clear h h' hb hy hyl hd
    cases d with
    | true =>
      have HDm : Hid ((-1000000000000000 : Int) ∈ l) := HD.out.1 rfl
      clear HD
      go_enter Tryz.func29, Tryz.ntmps29
      go_wp2_with fail
      simp only [← hwd] at *
      clear hwd
      refine (shiftedImage _ _ _ R _ _ _ _ _ l _ HA.out HI.out).mono ?_
      rintro e w1 ⟨b1, m, c, rfl, ho, hb⟩
      rw [HB.out]
      have HB1 := Lib.hid (HX.out.trans hb)
      have HI1 := Lib.hid (HI.out.below hb)
      clear ho hb
      go_wp2_with fail
      refine (containsI _ _ _ l _ true _ HI1.out ⟨fun _ => HDm.out, fun _ => rfl⟩).mono ?_
      rintro e w' ⟨rfl, rfl⟩
      go_wp2
      go_ret
      exact ⟨retB HE.out.symm, HB1.out⟩
    | false =>
      have HDn : Hid (¬ (-1000000000000000 : Int) ∈ l) := fun k => by have := HD.out.2 k; cases this
      clear HD
      go_enter Tryz.func29, Tryz.ntmps29
      go_wp2_with fail
      simp only [← hwd] at *
      clear hwd
      refine (shiftedImage _ _ _ R _ _ _ _ _ l _ HA.out HI.out).mono ?_
      rintro e w1 ⟨b1, m, c, rfl, ho, hb⟩
      rw [HB.out]
      rw [HY.out] at ho
      obtain rfl : m = N := by rw [ho.len, HYl.out]
      have HO := Lib.hid ho.ints'
      have HB1 := Lib.hid (HX.out.trans hb)
      have HI1 := Lib.hid (HI.out.below hb)
      clear ho hb
      go_wp2_with fail
      refine (containsI _ _ _ l _ false _ HI1.out ⟨fun k => absurd k Bool.false_ne_true, fun k => absurd k HDn.out⟩).mono ?_
      rintro e w' ⟨rfl, rfl⟩
      go_wp2_with fail
      refine (isAtMost _ _ _ y _ _ l _ HO.out HI1.out hN10).mono ?_
      rintro e w' ⟨rfl, rfl⟩
      go_wp2
      go_ret
      exact ⟨retB HE.out.symm, HB1.out⟩
end V
end Go.Proofs.YtmhpgnndjagogaaGreat

namespace Go.Proofs.YtmhpgnndjagogaaGreat
namespace M
theorem isPotB_t {R : List (List Int)} {a b : Int} {x : List Int} (h : isPotB R a b x = true) : sqB R = true ∧ isRat a b = true := by
  unfold isPotB at h
  rw [Bool.and_eq_true, Bool.and_eq_true] at h
  exact h.1
theorem certB_1 {R : List (List Int)} {a b : Int} {l x : List Int} (h : isPotB R a b x = false) : certB R a b l x = false := by unfold certB; rw [h]; rfl
theorem certB_2 {R : List (List Int)} {a b : Int} {l x : List Int} (h : cycB R l = false) : certB R a b l x = false := by unfold certB; rw [h]; simp
theorem certB_3 {R : List (List Int)} {a b : Int} {l x : List Int} (h : isPotB R a b x = true) (hc : cycB R l = true) : certB R a b l x = decide (meanR (aroundW R l) l.length = (a, b)) := by unfold certB; rw [h, hc]; rfl
end M
namespace V
open Go.RowKit
theorem three (a b c d : Int) : (c = a ∧ d = b) ∨ (c = a ∧ ¬ b = d ∧ (b == d) = false) ∨ (¬ a = c ∧ (a == c) = false) := by
  by_cases h1 : a = c
  · by_cases h2 : b = d
    · exact .inl ⟨h1.symm, h2.symm⟩
    · exact .inr (.inl ⟨h1.symm, h2, by simpa using h2⟩)
  · exact .inr (.inr ⟨h1, by simpa using h1⟩)
set_option maxRecDepth 100000 in
set_option maxHeartbeats 2000000 in
theorem isMeanCertificate (a : Option Addr) (n cap : Nat) (R : List (List Int)) (num den : Int) (a' : Option Addr) (N cap' : Nat) (l : List Int) (a'' : Option Addr) (K cap'' : Nat) (x : List Int) (w0 : World) (h : Mat w0 a n R) (h' : Ints .i64 w0 a' N l) (h'' : Ints .i64 w0 a'' K x) (hc1 : N ≤ cap') (hc2 : cap' ≤ maxLen) :
    Calls Tryz.prog 20 #[.slice a n cap, .agg #[.int .i64 num, .int .i64 den], .slice a' N cap', .slice a'' K cap''] w0 fun e w' => e = .returned (.bool (M.certB R num den l x)) ∧ Below w0.heap.size w0 w' := by
  obtain ⟨w, hwd⟩ : ∃ w, w = w0.alloc (rbox num den) := ⟨_, rfl⟩
  have HX : Hid (Boxed w0 w num den) := by show Boxed _ _ _ _; rw [hwd]; exact boxed _ _ _
  have HA : Hid (Mat w a n R) := h.below HX.out.below
  have HI : Hid (Ints .i64 w a' N l) := h'.below HX.out.below
  have HJ : Hid (Ints .i64 w a'' K x) := h''.below HX.out.below
  have HM := Lib.hid hc2
  have HZ := Lib.hid HX.out.size
  obtain ⟨c0, c1⟩ := HX.out.cells (Below.refl _ _)
  obtain ⟨b, hb⟩ : ∃ b, b = M.isPotB R num den x := ⟨_, rfl⟩
  have HP := Lib.hid hb
  cases b with
  | false =>
    have HE := Lib.hid (M.certB_1 (l := l) hb.symm)
    clear h h' h'' hb hc2
    go_enter Tryz.func20, Tryz.ntmps20
    go_wp2_with fail
    simp only [← hwd] at *
    clear hwd
    refine (isPotential _ _ _ R _ _ _ _ _ x _ HA.out HJ.out).mono ?_
    rintro e w1 ⟨rfl, hb1⟩
    rw [← HP.out]
    have HB1 := Lib.hid (HX.out.trans hb1)
    clear hb1
    go_wp2
    go_ret
    exact ⟨retB HE.out.symm, HB1.out⟩
  | true =>
    obtain ⟨hs, hr⟩ := M.isPotB_t hb.symm
    have HS := Lib.hid hs
    obtain ⟨c, hc⟩ : ∃ c, c = M.cycB R l := ⟨_, rfl⟩
    have HIC : Hid (M.isCycB R l = c) := by show _ = _; unfold M.isCycB; rw [hs, ← hc]; rfl
    cases c with
    | false =>
      have HE := Lib.hid (M.certB_2 (a := num) (b := den) (x := x) hc.symm)
      clear h h' h'' hb hc2 hs hr hc
      go_enter Tryz.func20, Tryz.ntmps20
      go_wp2_with fail
      simp only [← hwd] at *
      clear hwd
      refine (isPotential _ _ _ R _ _ _ _ _ x _ HA.out HJ.out).mono ?_
      rintro e w1 ⟨rfl, hb1⟩
      rw [← HP.out]
      have HB1 := Lib.hid hb1
      clear hb1
      go_wp2_with fail
      refine (isCycle_b _ _ _ R _ _ _ l _ false HIC.out (HA.out.below HB1.out) (HI.out.below HB1.out) hc1 HM.out).mono ?_
      rintro e w2 ⟨rfl, hb2⟩
      have HB2 := Lib.hid (HX.out.trans (bnext HB1.out hb2))
      clear hb2
      go_wp2
      go_ret
      exact ⟨retB HE.out.symm, HB2.out⟩
    | true =>
      have HC := Lib.hid hc.symm
      obtain ⟨m, hm⟩ : ∃ m, m = M.meanR (M.aroundW R l) l.length := ⟨_, rfl⟩
      have HMn := Lib.hid hm
      have HE : Hid (M.certB R num den l x = decide (m = (num, den))) := by show _ = _; rw [M.certB_3 hb.symm hc.symm, hm]
      clear h h' h'' hb hc2 hs hr hc hm
      obtain ⟨m1, m2⟩ := m
      have HE2 : Hid ((m1 == num && m2 == den) = M.certB R num den l x) := by
        show _ = _
        rw [HE.out, Bool.eq_iff_iff, Bool.and_eq_true, decide_eq_true_eq, beq_iff_eq, beq_iff_eq, Prod.mk.injEq]
      rcases three m1 m2 num den with ⟨rfl, rfl⟩ | ⟨rfl, e2, e3⟩ | ⟨e2, e3⟩
      all_goals
        go_enter Tryz.func20, Tryz.ntmps20
        go_wp2_with fail
        simp only [← hwd] at *
        clear hwd
        refine (isPotential _ _ _ R _ _ _ _ _ x _ HA.out HJ.out).mono ?_
        rintro e w1 ⟨rfl, hb1⟩
        rw [← HP.out]
        have HB1 := Lib.hid hb1
        clear hb1
        go_wp2_with fail
        refine (isCycle_b _ _ _ R _ _ _ l _ true HIC.out (HA.out.below HB1.out) (HI.out.below HB1.out) hc1 HM.out).mono ?_
        rintro e w2 ⟨rfl, hb2⟩
        have HB2 := Lib.hid (bnext HB1.out hb2)
        clear hb2
        obtain ⟨p0, p1⟩ := HX.out.cells HB2.out
        have hlt : w0.heap.size < w2.heap.size := by have := HB2.out.size; have := HZ.out; omega
        go_wp2
        go_region_held3 (fun w' => w'.cell? ⟨w0.heap.size, 0, none⟩ = some (.int .i64 num) ∧ w'.cell? ⟨w0.heap.size, 1, none⟩ = some (.int .i64 den) ∧ Below w2.heap.size w2 w') (first | exact ⟨p0, p1, (Below.refl _ _).drew⟩ | exact V.keep3 hlt ‹_ ∧ _ ∧ Below _ _ _› hb)
          (first | (go_at_call 64; refine (givenMean _ _ _ R _ _ _ l _ (HA.out.below (HB2.out.trans ((V.low3 ‹_ ∧ _ ∧ Below _ _ _›).mono HB2.out.size))) HS.out HC.out (HI.out.below (HB2.out.trans ((V.low3 ‹_ ∧ _ ∧ Below _ _ _›).mono HB2.out.size))) hc1 HM.out).mono ?_; rintro e w3 ⟨rfl, hb⟩; rw [← HMn.out]))
        all_goals
          have hb3 : Below w2.heap.size w2 w3 := V.low3 (by assumption)
          have HB3 := Lib.hid (HX.out.trans (HB2.out.trans (hb3.mono HB2.out.size)))
          clear hb hb3
          go_wp2
          all_goals
            go_ret
            refine ⟨retB ?_, HB3.out⟩
            rw [← HE2.out]
            try simp_all
set_option maxRecDepth 100000 in
set_option maxHeartbeats 2000000 in
theorem sIsMeanCertificate (a : Option Addr) (n cap : Nat) (R : List (List Int)) (num den : Int) (a' : Option Addr) (N cap' : Nat) (l : List Int) (a'' : Option Addr) (K cap'' : Nat) (x : List Int) (w0 : World) (h : Mat w0 a n R) (h' : Ints .i64 w0 a' N l) (h'' : Ints .i64 w0 a'' K x) (hc1 : N ≤ cap') (hc2 : cap' ≤ maxLen) :
    Calls Tryz.prog 21 #[.slice a n cap, .agg #[.int .i64 num, .int .i64 den], .slice a' N cap', .slice a'' K cap''] w0 fun e w' => e = .returned (.bool (M.certB R num den l x)) ∧ Below w0.heap.size w0 w' := by
  obtain ⟨w, hwd⟩ : ∃ w, w = w0.alloc (rbox num den) := ⟨_, rfl⟩
  have HX : Hid (Boxed w0 w num den) := by show Boxed _ _ _ _; rw [hwd]; exact boxed _ _ _
  have HA : Hid (Mat w a n R) := h.below HX.out.below
  have HI : Hid (Ints .i64 w a' N l) := h'.below HX.out.below
  have HJ : Hid (Ints .i64 w a'' K x) := h''.below HX.out.below
  have HM := Lib.hid hc2
  have HZ := Lib.hid HX.out.size
  obtain ⟨c0, c1⟩ := HX.out.cells (Below.refl _ _)
  obtain ⟨b, hb⟩ : ∃ b, b = M.isPotB R num den x := ⟨_, rfl⟩
  have HP := Lib.hid hb
  cases b with
  | false =>
    have HE := Lib.hid (M.certB_1 (l := l) hb.symm)
    clear h h' h'' hb hc2
    go_enter Tryz.func21, Tryz.ntmps21
    go_wp2_with fail
    simp only [← hwd] at *
    clear hwd
    refine (sIsPotential _ _ _ R _ _ _ _ _ x _ HA.out HJ.out).mono ?_
    rintro e w1 ⟨rfl, hb1⟩
    rw [← HP.out]
    have HB1 := Lib.hid (HX.out.trans hb1)
    clear hb1
    go_wp2
    go_ret
    exact ⟨retB HE.out.symm, HB1.out⟩
  | true =>
    obtain ⟨hs, hr⟩ := M.isPotB_t hb.symm
    have HS := Lib.hid hs
    by_cases hc : M.cycB R l = true
    · obtain ⟨m, hm⟩ : ∃ m, m = M.meanR (M.aroundW R l) l.length := ⟨_, rfl⟩
      have HC : Hid (M.mean2 R l = (m, true)) := by show _ = _; unfold M.mean2; rw [if_pos hc, hm]
      have HE : Hid (M.certB R num den l x = decide (m = (num, den))) := by show _ = _; rw [M.certB_3 hb.symm hc, hm]
      clear h h' h'' hb hc2 hs hr hc hm
      obtain ⟨m1, m2⟩ := m
      have HE2 : Hid ((m1 == num && m2 == den) = M.certB R num den l x) := by
        show _ = _
        rw [HE.out, Bool.eq_iff_iff, Bool.and_eq_true, decide_eq_true_eq, beq_iff_eq, beq_iff_eq, Prod.mk.injEq]
      go_enter Tryz.func21, Tryz.ntmps21
      go_wp2_with fail
      simp only [← hwd] at *
      clear hwd
      refine (sIsPotential _ _ _ R _ _ _ _ _ x _ HA.out HJ.out).mono ?_
      rintro e w1 ⟨rfl, hb1⟩
      rw [← HP.out]
      have HB1 := Lib.hid hb1
      clear hb1
      go_wp2_with fail
      refine (sMean _ _ _ R _ _ _ l _ (HA.out.below HB1.out) HS.out (HI.out.below HB1.out) hc1 HM.out).mono ?_
      rintro e w2 ⟨rfl, hb2⟩
      rw [HC.out]
      have HB2 := Lib.hid (bnext HB1.out hb2)
      obtain ⟨p0, p1⟩ := HX.out.cells HB2.out
      have hlt : w0.heap.size < w2.heap.size := by have := HB2.out.size; have := HZ.out; omega
      clear hb2
      go_wp2
      all_goals
        go_ret
        refine ⟨retB ?_, by first | exact (HX.out.trans HB2.out).alloc (HX.out.trans HB2.out).size _ | exact HX.out.trans HB2.out⟩
        rw [← HE2.out]
        try simp_all
    · simp only [Bool.not_eq_true] at hc
      have HC : Hid (M.mean2 R l = ((0, 0), false)) := by show _ = _; unfold M.mean2; rw [if_neg (by rw [hc]; exact Bool.false_ne_true)]
      have HE := Lib.hid (M.certB_2 (a := num) (b := den) (x := x) hc)
      clear h h' h'' hb hc2 hs hr hc
      go_enter Tryz.func21, Tryz.ntmps21
      go_wp2_with fail
      simp only [← hwd] at *
      clear hwd
      refine (sIsPotential _ _ _ R _ _ _ _ _ x _ HA.out HJ.out).mono ?_
      rintro e w1 ⟨rfl, hb1⟩
      rw [← HP.out]
      have HB1 := Lib.hid hb1
      clear hb1
      go_wp2_with fail
      refine (sMean _ _ _ R _ _ _ l _ (HA.out.below HB1.out) HS.out (HI.out.below HB1.out) hc1 HM.out).mono ?_
      rintro e w2 ⟨rfl, hb2⟩
      rw [HC.out]
      have HB2 := Lib.hid (bnext HB1.out hb2)
      obtain ⟨p0, p1⟩ := HX.out.cells HB2.out
      clear hb2
      go_wp2
      go_ret
      exact ⟨retB HE.out.symm, by first | exact (HX.out.trans HB2.out).alloc (HX.out.trans HB2.out).size _ | exact HX.out.trans HB2.out⟩
end V
end Go.Proofs.YtmhpgnndjagogaaGreat

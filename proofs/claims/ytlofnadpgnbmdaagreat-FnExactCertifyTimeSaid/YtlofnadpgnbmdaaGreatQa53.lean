/- Texts laid together: Ctp, Ctq. -/
import Derived.Test.YtlofnadpgnbmdaaGreatQa50
import Derived.Test.YtlofnadpgnbmdaaGreatQa51
import Derived.Test.YtlofnadpgnbmdaaGreatQa22
set_option linter.unusedSimpArgs false
set_option linter.unusedVariables false
set_option linter.unusedSectionVars false
namespace Go.Proofs.YtlofnadpgnbmdaaGreat
namespace M
def timL (l : List Pc) (n : Nat) (r0 r1 : Int) : List Int := applyM (starM (wtM (fExc r0 r1) n l) n) (zerosL n)
def timRes (x : Int) (l : List Pc) (r0 r1 : Int) : List Int × Int :=
  if isGr x l && isRat r0 r1 then (if noPos (wtF (fExc r0 r1) l) x.toNat then (if isVec (timL l x.toNat r0 r1) then (timL l x.toNat r0 r1, 0) else ([], 3)) else ([], 5)) else ([], 1)
theorem tim_len (l : List Pc) (n : Nat) (r0 r1 : Int) : (timL l n r0 r1).length = n := by
  unfold timL
  rw [apply_len', show wtM (fExc r0 r1) n l = mk n n (wtF (fExc r0 r1) l) from rfl, starM_mk]
  simp [mk]
theorem timRes_len (x : Int) (l : List Pc) (r0 r1 : Int) : (timRes x l r0 r1).1.length ≤ 30 := by
  unfold timRes
  split
  · next h =>
    split
    · split
      · simp only [Bool.and_eq_true] at h
        have h1 := h.1
        unfold isGr inB at h1
        simp only [Bool.and_eq_true, decide_eq_true_eq] at h1
        rw [tim_len]; omega
      · simp
    · simp
  · simp
theorem tim_nn {l : List Pc} {n i : Nat} {r0 r1 : Int} (hi : i < n) : 0 ≤ (timL l n r0 r1).getD i 0 := by
  unfold timL
  rw [show wtM (fExc r0 r1) n l = mk n n (wtF (fExc r0 r1) l) from rfl, starM_mk, apply_get (by simp [mk]; exact hi), zeros_len]
  have := sum_ge (f := fun t => times (ent (mk n n (starF (wtF (fExc r0 r1) l) n)) i t) ((zerosL n).getD t 0)) hi
  have e : times (ent (mk n n (starF (wtF (fExc r0 r1) l) n)) i i) ((zerosL n).getD i 0) = 0 := by
    rw [ent_mk _ _ _ _ _ hi hi, zeros_at, show starF (wtF (fExc r0 r1) l) n i i = 0 from if_pos rfl]; rfl
  rw [e] at this
  exact this
theorem tim_fin {l : List Pc} {n : Nat} {r0 r1 : Int} (n1 : 1 ≤ n) (n2 : n ≤ 10) : (timL l n r0 r1).all isFin = isVec (timL l n r0 r1) := by
  rw [isVec_all (by rw [tim_len]; exact n1) (by rw [tim_len]; exact n2), Bool.eq_iff_iff, List.all_eq_true, List.all_eq_true]
  refine ⟨fun k x hx => isVal_of_fin (k x hx), fun k x hx => ?_⟩
  have hv := isVal_t (k x hx)
  obtain ⟨i, hi, rfl⟩ := List.mem_iff_getElem.1 hx
  have h1 := tim_nn (l := l) (n := n) (r0 := r0) (r1 := r1) (i := i) (by rw [← tim_len l n r0 r1]; exact hi)
  have e2 : (timL l n r0 r1).getD i 0 = (timL l n r0 r1)[i] := by simp [hi]
  rw [e2] at h1
  simp [isFin]; omega
end M
namespace V
set_option maxRecDepth 100000
open Go.RowKit
/-- The boxes of a graph and a ratio. -/
def GR (w0 w : World) (g : Nat) (x : Int) (a : Option Addr) (n cap : Nat) (r0 r1 : Int) : Prop := GBox w g x a n cap ∧ RQ w (g + 1) (r0, r1) ∧ Below g w0 w
theorem GR.step {w0 w w' : World} {g : Nat} {x r0 r1 : Int} {a : Option Addr} {n cap : Nat} (h : GR w0 w g x a n cap r0 r1) (hb : Below w.heap.size w w') (hg : g ≤ w0.heap.size) : GR w0 w' g x a n cap r0 r1 :=
  ⟨h.1.below hb, h.2.1.eq (hb.block _ (cell_lt h.2.1.1)), h.2.2.trans (hb.mono (Nat.le_trans hg h.2.2.size))⟩
theorem GR.new (w : World) (x : Int) (a : Option Addr) (n cap : Nat) (r0 r1 : Int) : GR w ((w.alloc (.cells #[.int .i64 x, .slice a n cap] 26)).alloc (.cells #[.int .i64 r0, .int .i64 r1] 37)) w.heap.size x a n cap r0 r1 := by
  have := RQ.new (w.alloc (.cells #[.int .i64 x, .slice a n cap] 26)) r0 r1
  rw [World.size_alloc] at this
  exact ⟨(gBox_new w x a n cap 26).below (b_alloc _ _), this, b_alloc2 w _ _⟩
theorem keepR {w0 w w' : World} {g : Nat} {x r0 r1 : Int} {a : Option Addr} {n cap : Nat} {P Q R S : Prop} (h : P ∧ Q ∧ R ∧ S ∧ GR w0 w g x a n cap r0 r1) (hg : g ≤ w0.heap.size) (hb : Below w.heap.size w w') :
    w'.cell? ⟨g, 0, none⟩ = some (.int .i64 x) ∧ w'.cell? ⟨g, 1, none⟩ = some (.slice a n cap) ∧ w'.cell? ⟨g + 1, 0, none⟩ = some (.int .i64 r0) ∧ w'.cell? ⟨g + 1, 1, none⟩ = some (.int .i64 r1) ∧ GR w0 w' g x a n cap r0 r1 := by
  have := h.2.2.2.2.step hb hg
  exact ⟨this.1.1, this.1.2, this.2.1.1, this.2.1.2, this⟩
set_option maxRecDepth 100000 in
set_option maxHeartbeats 4000000 in
theorem timePotential (x : Int) (a : Option Addr) (n cap : Nat) (l : List M.Pc) (r0 r1 : Int) (w : World) (h : Pls w a n l) :
    Calls Tryz.prog 22 #[.agg #[.int .i64 x, .slice a n cap], .agg #[.int .i64 r0, .int .i64 r1]] w (VRes (M.timRes x l r0 r1) w) := by
  have hG := GR.new w x a n cap r0 r1
  obtain ⟨wb, hwb⟩ : ∃ z, z = (w.alloc (.cells #[.int .i64 x, .slice a n cap] 26)).alloc (.cells #[.int .i64 r0, .int .i64 r1] 37) := ⟨_, rfl⟩
  rw [← hwb] at hG
  have HC := Lib.hid (isEventGraph x a n cap l wb (h.below hG.2.2))
  have HP := Lib.hid h
  have HG := Lib.hid hG
  have HWb := Lib.hid hwb.symm
  cases hg : M.isGr x l with
  | false =>
    rw [hg] at HC
    have HE : Hid (M.timRes x l r0 r1 = ([], 1)) := by show _ = _; unfold M.timRes; rw [hg]; rfl
    clear h hG hwb hg
    obtain ⟨⟨g0, g1⟩, ⟨q0, q1⟩, -⟩ := HG.out
    go_enter Tryz.func22, Tryz.ntmps22
    go_wp2_with fail
    rw [HWb.out]
    refine HC.out.mono ?_
    rintro e w1 ⟨rfl, hb⟩
    have HB := Lib.hid (HG.out.step hb (Nat.le_refl _)).2.2
    clear hb g0 g1 q0 q1
    go_wp2
    go_ret2
    exact VRes.nil HE.out HB.out
  | true =>
    rw [hg] at HC
    obtain ⟨N, rfl⟩ := M.gr_nat hg
    cases hr : M.isRat r0 r1 with
    | false =>
      have HE : Hid (M.timRes N l r0 r1 = ([], 1)) := by show _ = _; unfold M.timRes; rw [hg, hr]; rfl
      have HR := Lib.hid hr
      clear h hG hwb hg hr
      obtain ⟨⟨g0, g1⟩, ⟨q0, q1⟩, -⟩ := HG.out
      go_enter Tryz.func22, Tryz.ntmps22
      go_wp2_with fail
      rw [HWb.out]
      refine HC.out.mono ?_
      rintro e w1 ⟨rfl, hb⟩
      have HG1 := Lib.hid (HG.out.step hb (Nat.le_refl _))
      clear hb g0 g1 q0 q1
      obtain ⟨⟨g0, g1⟩, ⟨q0, q1⟩, -⟩ := HG1.out
      go_wp2_with fail
      refine (isRatio_b _ _ false HR.out _).mono ?_
      rintro e w2 ⟨rfl, hb⟩
      have HB := Lib.hid (HG1.out.step hb (Nat.le_refl _)).2.2
      clear hb g0 g1 q0 q1
      go_wp2
      go_ret2
      exact VRes.nil HE.out HB.out
    | true =>
      obtain ⟨he, n1, n2, l30⟩ := M.gr_ev hg
      have HE : Hid (M.timRes N l r0 r1 = M.lfpL (M.wtM (M.fExc r0 r1) N l) N (M.zerosL N)) := by
        show _ = _
        unfold M.timRes M.lfpL
        rw [hg, hr, show M.wtM (M.fExc r0 r1) N l = M.mk N N (M.wtF (M.fExc r0 r1) l) from rfl, M.noPos_mk]
        rfl
      have HSm : Hid (∀ i j, i < N → j < N → M.Sm 1000001000000 (M.wtF (M.fExc r0 r1) l i j)) := fun i j _ _ => M.exc_sm he hr i j
      have HLB : Hid (∀ k, k < N → M.Big ((M.zerosL N).getD k 0)) := fun k _ => by rw [M.zeros_at]; exact .inr (by omega)
      have HW : Hid (∀ W, Below w.heap.size w W → Calls Tryz.prog 69 #[.agg #[.int .i64 N, .slice a n cap], .func (.func 70) #[.agg #[.int .i64 r0, .int .i64 r1]] #[]] W (MPost N (M.wtM (M.fExc r0 r1) N l) W)) := fun W hW => weightedExc N r0 r1 a n cap l W (h.below hW) hg hr
      obtain ⟨P, hP⟩ : ∃ P, P = M.wtM (M.fExc r0 r1) N l := ⟨_, rfl⟩
      have HPq : Hid (M.mk N N (M.wtF (M.fExc r0 r1) l) = P) := hP.symm
      obtain ⟨z, hzd⟩ : ∃ z, z = M.zerosL N := ⟨_, rfl⟩
      have HZd : Hid (((List.range N).map fun _ => (0 : Int)) = z) := by show _ = _; rw [hzd]; exact M.zeros_made N
      have HR := Lib.hid hr
      rw [← hP] at HE HW
      rw [← hzd] at HLB HE
      have hmk := run_make_row' (P := Tryz.prog) 43 2 (.int .i64 0) 8 Tryz.underlying43 info64 rfl .i64 .i64 N (by omega) (by omega)
      clear h hG hwb hg hr he hP hzd
      obtain ⟨⟨g0, g1⟩, ⟨q0, q1⟩, -⟩ := HG.out
      go_enter Tryz.func22, Tryz.ntmps22
      go_wp2_with fail
      rw [HWb.out]
      refine HC.out.mono ?_
      rintro e w1 ⟨rfl, hb⟩
      have HG1 := Lib.hid (HG.out.step hb (Nat.le_refl _))
      clear hb g0 g1 q0 q1
      obtain ⟨⟨g0, g1⟩, ⟨q0, q1⟩, -⟩ := HG1.out
      go_wp2_with fail
      refine (isRatio_b _ _ true HR.out _).mono ?_
      rintro e w2 ⟨rfl, hb⟩
      have HG2 := Lib.hid (HG1.out.step hb (Nat.le_refl _))
      clear hb g0 g1 q0 q1
      obtain ⟨⟨g0, g1⟩, ⟨q0, q1⟩, -⟩ := HG2.out
      go_wp2
      go_region_held3 (fun w' => w'.cell? ⟨w.heap.size, 0, none⟩ = some (.int .i64 N) ∧ w'.cell? ⟨w.heap.size, 1, none⟩ = some (.slice a n cap) ∧ w'.cell? ⟨w.heap.size + 1, 0, none⟩ = some (.int .i64 r0) ∧ w'.cell? ⟨w.heap.size + 1, 1, none⟩ = some (.int .i64 r1) ∧ GR w w' w.heap.size N a n cap r0 r1)
        (first
          | exact ⟨g0, g1, q0, q1, HG2.out.step (Below.refl _ _).drew (Nat.le_refl _)⟩
          | exact keepR ‹_ ∧ _ ∧ _ ∧ _ ∧ GR _ _ _ _ _ _ _ _ _› (Nat.le_refl _) hb3
          | exact keepR ‹_ ∧ _ ∧ _ ∧ _ ∧ GR _ _ _ _ _ _ _ _ _› (Nat.le_refl _) hb4
          | exact ‹_ ∧ _ ∧ _ ∧ _ ∧ GR _ _ _ _ _ _ _ _ _›
          | exact keepR ⟨g0, g1, q0, q1, HG2.out⟩ (Nat.le_refl _) (b_alloc _ _).drew
          | exact keepR ⟨g0, g1, q0, q1, HG2.out⟩ (Nat.le_refl _) ((Below.refl _ _).drew.trans hb3)
          | exact keepR ⟨g0, g1, q0, q1, HG2.out⟩ (Nat.le_refl _) ((b_alloc _ _).drew.trans (hb3.mono (by simp)))
          | exact keepR ‹_ ∧ _ ∧ _ ∧ _ ∧ GR _ _ _ _ _ _ _ _ _› (Nat.le_refl _) (b_alloc _ _))
        (first
          | (go_at_call 69; refine (HW.out _ (‹_ ∧ _ ∧ _ ∧ _ ∧ GR _ _ _ _ _ _ _ _ _›).2.2.2.2.2.2).mono ?_; rintro e w3 ⟨a2, cap2, rfl, hO, hb3⟩; have HO := Lib.hid hO; have HB3 := Lib.hid hb3; clear hO)
          | (go_at_call 68; refine (leastFixedPoint _ _ _ P _ _ z _ ?hq ?hi HLB.out).mono ?_;
              (case hq => first | (have := sq_shift (by rw [HPq.out]; exact HO.out.mat) HSm.out n1 n2; rw [HPq.out] at this; exact this) | (have := sq_shift (by rw [HPq.out]; exact HO.out.mat) HSm.out n1 n2; rw [HPq.out] at this; exact this.below (b_alloc _ _)));
              (case hi => first | (have := (own_made w3 0 N (Nat.zero_le _) (by unfold maxLen; omega)).ints'; rw [HZd.out] at this; exact this) | (have := (own_made w2.drew 0 N (Nat.zero_le _) (by unfold maxLen; omega)).ints'; rw [HZd.out] at this; exact this.below HB3.out));
              rintro e w4 ⟨b4, m4, c4, rfl, ho, hb4⟩; have HB4 := Lib.hid (keepR ‹_ ∧ _ ∧ _ ∧ _ ∧ GR _ _ _ _ _ _ _ _ _› (Nat.le_refl _) hb4).2.2.2.2.2.2))
      all_goals
        have hz2 := HG2.out.2.2.size
        have hz3 := HB3.out.size
        have hsl : w.heap.size ≤ w3.heap.size := by
          have q : (w2.drew).heap.size = w2.heap.size := rfl
          simp [q] at hz3
          omega
        have HO4 := Lib.hid (ho.mono (B' := w.heap.size) (by first | omega | (simp; omega)))
        clear ho hb3 hb4
        go_wp2
        go_ret2
        rw [HE.out]
        exact ⟨_, _, _, rfl, HO4.out, HB4.out⟩
end V
end Go.Proofs.YtlofnadpgnbmdaaGreat

namespace Go.Proofs.YtlofnadpgnbmdaaGreat
namespace V
set_option maxRecDepth 100000
open Go.RowKit
set_option maxRecDepth 100000 in
set_option maxHeartbeats 4000000 in
theorem sTimePotential (x : Int) (a : Option Addr) (n cap : Nat) (l : List M.Pc) (r0 r1 : Int) (w : World) (h : Pls w a n l) :
    Calls Tryz.prog 23 #[.agg #[.int .i64 x, .slice a n cap], .agg #[.int .i64 r0, .int .i64 r1]] w (VRes (M.timRes x l r0 r1) w) := by
  have hG := GR.new w x a n cap r0 r1
  obtain ⟨wb, hwb⟩ : ∃ z, z = (w.alloc (.cells #[.int .i64 x, .slice a n cap] 26)).alloc (.cells #[.int .i64 r0, .int .i64 r1] 37) := ⟨_, rfl⟩
  rw [← hwb] at hG
  have HC := Lib.hid (sIsEventGraph x a n cap l wb (h.below hG.2.2))
  have HP := Lib.hid h
  have HG := Lib.hid hG
  have HWb := Lib.hid hwb.symm
  cases hg : M.isGr x l with
  | false =>
    rw [hg] at HC
    have HE : Hid (M.timRes x l r0 r1 = ([], 1)) := by show _ = _; unfold M.timRes; rw [hg]; rfl
    clear h hG hwb hg
    obtain ⟨⟨g0, g1⟩, ⟨q0, q1⟩, -⟩ := HG.out
    go_enter Tryz.func23, Tryz.ntmps23
    go_wp2_with fail
    rw [HWb.out]
    refine HC.out.mono ?_
    rintro e w1 ⟨rfl, hb⟩
    have HB := Lib.hid (HG.out.step hb (Nat.le_refl _)).2.2
    clear hb g0 g1 q0 q1
    go_wp2
    go_ret2
    exact VRes.nil HE.out HB.out
  | true =>
    rw [hg] at HC
    obtain ⟨N, rfl⟩ := M.gr_nat hg
    cases hr : M.isRat r0 r1 with
    | false =>
      have HE : Hid (M.timRes N l r0 r1 = ([], 1)) := by show _ = _; unfold M.timRes; rw [hg, hr]; rfl
      have HR := Lib.hid hr
      clear h hG hwb hg hr
      obtain ⟨⟨g0, g1⟩, ⟨q0, q1⟩, -⟩ := HG.out
      go_enter Tryz.func23, Tryz.ntmps23
      go_wp2_with fail
      rw [HWb.out]
      refine HC.out.mono ?_
      rintro e w1 ⟨rfl, hb⟩
      have HG1 := Lib.hid (HG.out.step hb (Nat.le_refl _))
      clear hb g0 g1 q0 q1
      obtain ⟨⟨g0, g1⟩, ⟨q0, q1⟩, -⟩ := HG1.out
      go_wp2_with fail
      refine (sIsRatio_b _ _ false HR.out _).mono ?_
      rintro e w2 ⟨rfl, hb⟩
      have HB := Lib.hid (HG1.out.step hb (Nat.le_refl _)).2.2
      clear hb g0 g1 q0 q1
      go_wp2
      go_ret2
      exact VRes.nil HE.out HB.out
    | true =>
      obtain ⟨he, n1, n2, l30⟩ := M.gr_ev hg
      have HF : Hid ((M.timL l N r0 r1).all M.isFin = M.isVec (M.timL l N r0 r1)) := M.tim_fin n1 n2
      have HSm : Hid (∀ i j, i < N → j < N → M.Sm 1000001000000 (M.wtF (M.fExc r0 r1) l i j)) := fun i j _ _ => M.exc_sm he hr i j
      have HLB : Hid (∀ k, k < N → M.Big ((M.zerosL N).getD k 0)) := fun k _ => by rw [M.zeros_at]; exact .inr (by omega)
      have HW : Hid (∀ W, Below w.heap.size w W → Calls Tryz.prog 73 #[.agg #[.int .i64 N, .slice a n cap], .agg #[.int .i64 r0, .int .i64 r1]] W (MPost N (M.wtM (M.fExc r0 r1) N l) W)) := fun W hW => sWeights N r0 r1 a n cap l W (h.below hW) hg hr
      obtain ⟨np, hnp⟩ : ∃ np, np = M.noPos (M.wtF (M.fExc r0 r1) l) N := ⟨_, rfl⟩
      obtain ⟨L, hL⟩ : ∃ L, L = M.timL l N r0 r1 := ⟨_, rfl⟩
      obtain ⟨b, hb⟩ : ∃ b, b = M.isVec L := ⟨_, rfl⟩
      have HE : Hid (M.timRes N l r0 r1 = if np then (if b then (L, 0) else ([], 3)) else ([], 5)) := by
        show _ = _
        unfold M.timRes
        rw [hg, hr, hb, hL, hnp]
        rfl
      have HM : Hid (L.all M.isFin = b) := by show _ = _; rw [hb, hL]; exact HF.out
      obtain ⟨P, hP⟩ : ∃ P, P = M.wtM (M.fExc r0 r1) N l := ⟨_, rfl⟩
      have HPq : Hid (M.mk N N (M.wtF (M.fExc r0 r1) l) = P) := hP.symm
      have HNp : Hid (np = M.noPos (M.ent P) N) := by show _ = _; rw [← HPq.out, M.noPos_mk]; exact hnp
      have HLq : Hid (M.applyM (M.starM P N) (M.zerosL N) = L) := by show _ = _; rw [hL, hP]; rfl
      obtain ⟨z, hzd⟩ : ∃ z, z = M.zerosL N := ⟨_, rfl⟩
      have HZd : Hid (((List.range N).map fun _ => (0 : Int)) = z) := by show _ = _; rw [hzd]; exact M.zeros_made N
      have HR := Lib.hid hr
      rw [← hP] at HW
      rw [← hzd] at HLB HLq
      have hmk := run_make_row' (P := Tryz.prog) 43 2 (.int .i64 0) 8 Tryz.underlying43 info64 rfl .i64 .i64 N (by omega) (by omega)
      clear h hG hwb hg hr he hP hzd hnp hL hb HF
      obtain ⟨⟨g0, g1⟩, ⟨q0, q1⟩, -⟩ := HG.out
      go_enter Tryz.func23, Tryz.ntmps23
      go_wp2_with fail
      rw [HWb.out]
      refine HC.out.mono ?_
      rintro e w1 ⟨rfl, hb⟩
      have HG1 := Lib.hid (HG.out.step hb (Nat.le_refl _))
      clear hb g0 g1 q0 q1
      obtain ⟨⟨g0, g1⟩, ⟨q0, q1⟩, -⟩ := HG1.out
      go_wp2_with fail
      refine (sIsRatio_b _ _ true HR.out _).mono ?_
      rintro e w2 ⟨rfl, hb⟩
      have HG2 := Lib.hid (HG1.out.step hb (Nat.le_refl _))
      clear hb g0 g1 q0 q1
      obtain ⟨⟨g0, g1⟩, ⟨q0, q1⟩, -⟩ := HG2.out
      go_wp2_with fail
      refine (HW.out _ HG2.out.2.2).mono ?_
      rintro e w3 ⟨a2, cap2, rfl, hO, hb⟩
      have HG3 := Lib.hid (HG2.out.step hb (Nat.le_refl _))
      have hq : Sq w3 a2 N P := by
        have := sq_shift (by rw [HPq.out]; exact hO.mat) HSm.out n1 n2
        rw [HPq.out] at this; exact this
      have HQ3 := Lib.hid hq
      clear hb hO hq g0 g1 q0 q1
      go_wp2_with fail
      refine (sStar _ _ _ P _ HQ3.out).mono ?_
      rintro e w4 ⟨b4, c4, rfl, hO, hb⟩
      rw [← HNp.out]
      have HG4 := Lib.hid (HG3.out.step hb (Nat.le_refl _))
      have HO4 := Lib.hid hO
      clear hb hO
      cases np with
      | false =>
        have HE2 : Hid (M.timRes N l r0 r1 = ([], 5)) := HE.out
        go_wp2
        go_ret2
        exact VRes.nil HE2.out HG4.out.2.2
      | true =>
        have hO2 := HO4.out
        rw [M.bm_star n2 HQ3.out.2.2.1 HNp.out.symm] at hO2
        have HO2 := Lib.hid hO2
        have HSB : Hid (∀ i j, i < N → j < N → M.Big (M.ent (M.starM P N) i j)) := fun i j hi hj => M.star_big n2 HQ3.out.2.2.1 HNp.out.symm hi hj
        clear hO2 HO4
        obtain ⟨⟨g0, g1⟩, -, -⟩ := HG4.out
        cases b with
        | true =>
          have HE2 : Hid (M.timRes N l r0 r1 = (L, 0)) := HE.out
          go_wp2_with fail
          refine (sApplyB _ _ _ _ _ _ _ z _ (HO2.out.mat.below (b_alloc _ _)) (by have := (own_made w4 0 N (Nat.zero_le _) (by unfold maxLen; omega)).ints'; rw [HZd.out] at this; exact this) (rect_mk _ _ _) HSB.out HLB.out n2 n1 n2).mono ?_
          rintro e w5 ⟨b5, c5, rfl, hx, hb⟩
          have HB5 := Lib.hid (HG4.out.2.2.trans ((bel1 hb).mono HG4.out.2.2.size))
          have HX5 := Lib.hid (hx.mono (B' := w.heap.size) (by have := HG4.out.2.2.size; simp; omega))
          clear hx hb hmk g0 g1
          rw [HLq.out] at HX5
          go_wp2_with fail
          refine (sAllF_b _ _ _ L true HM.out _ HX5.out.ints').mono ?_
          rintro e w' ⟨rfl, rfl⟩
          go_wp2
          go_ret2
          rw [HE2.out]
          exact ⟨_, _, _, rfl, HX5.out, HB5.out⟩
        | false =>
          have HE2 : Hid (M.timRes N l r0 r1 = ([], 3)) := HE.out
          go_wp2_with fail
          refine (sApplyB _ _ _ _ _ _ _ z _ (HO2.out.mat.below (b_alloc _ _)) (by have := (own_made w4 0 N (Nat.zero_le _) (by unfold maxLen; omega)).ints'; rw [HZd.out] at this; exact this) (rect_mk _ _ _) HSB.out HLB.out n2 n1 n2).mono ?_
          rintro e w5 ⟨b5, c5, rfl, hx, hb⟩
          have HB5 := Lib.hid (HG4.out.2.2.trans ((bel1 hb).mono HG4.out.2.2.size))
          have HX5 := Lib.hid (hx.mono (B' := w.heap.size) (by have := HG4.out.2.2.size; simp; omega))
          clear hx hb hmk g0 g1
          rw [HLq.out] at HX5
          go_wp2_with fail
          refine (sAllF_b _ _ _ L false HM.out _ HX5.out.ints').mono ?_
          rintro e w' ⟨rfl, rfl⟩
          go_wp2
          go_ret2
          exact VRes.nil HE2.out HB5.out
end V
end Go.Proofs.YtlofnadpgnbmdaaGreat

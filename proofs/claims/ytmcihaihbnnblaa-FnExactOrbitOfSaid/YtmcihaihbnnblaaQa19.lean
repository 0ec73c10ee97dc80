/- Texts laid together: Sat, Ors. -/
import Derived.Test.YtmcihaihbnnblaaQa18
set_option linter.unusedSimpArgs false
set_option linter.unusedVariables false
set_option linter.unusedSectionVars false
namespace Go.Proofs.Ytmcihaihbnnblaa.V
set_option maxRecDepth 100000
open Go.RowKit
def lenOf : Option Value → Nat
  | some (.slice _ n _) => n
  | _ => 0
/-- What a series stands on. -/
structure SerB (w0 : World) (a : Option Addr) (n L : Nat) (R F : List (List Int)) : Prop where
  mat : Mat w0 a n R
  rect : Rect R n n
  n1 : 1 ≤ n
  n2 : n ≤ 10
  sm : ∀ i j, i < n → j < n → M.Sm 1000000 (M.ent R i j)
  len : F.length = n
  wid : M.wid F = L
  l1 : 1 ≤ L
  l2 : L ≤ 10
theorem SerB.rlen {w0 : World} {a : Option Addr} {n L : Nat} {R F : List (List Int)} (h : SerB w0 a n L R F) : R.length = n := h.mat.1
theorem SerB.sq {w0 : World} {a : Option Addr} {n L : Nat} {R F : List (List Int)} (h : SerB w0 a n L R F) {k : Nat} (hk : M.okQ R F k = true) : Rect (M.sq7 R F k) n L ∧ ∀ i j, i < n → j < L → M.isVal (M.ent (M.sq7 R F k) i j) = true := by
  have hl := M.sq7_len (R := R) (F := F) (by rw [h.len, h.rlen]) k
  have hw := M.sq7_wid (R := R) (F := F) (by rw [h.rlen]; exact h.n1) k
  have hr := rect_mat hk
  rw [hl, hw, h.rlen, h.wid] at hr
  exact ⟨hr, fun i j hi hj => (M.isMat_t hk).2.2.2.2.2 i (by rw [hl, h.rlen]; exact hi) j (by rw [hw, h.wid]; exact hj)⟩
theorem SerB.next {w0 : World} {a : Option Addr} {n L : Nat} {R F : List (List Int)} (h : SerB w0 a n L R F) (k : Nat) : M.sq7 R F (k + 1) = M.mk n L fun i j => M.dot R (M.sq7 R F k) i j n := by
  show M.mulM R _ = _
  unfold M.mulM
  rw [M.sq7_wid (R := R) (F := F) (by rw [h.rlen]; exact h.n1) k, M.sq7_len (R := R) (F := F) (by rw [h.len, h.rlen]) k, h.rlen, h.wid]
theorem serL (w : World) {p n cap k : Nat} {w0 : World} {a : Option Addr} {R F : List (List Int)} (h : IsSer w0 w p a n cap R F k) : lenOf (w.cell? ⟨p, 2, none⟩) = k + 1 := by
  obtain ⟨-, -, b1, c1, b2, c2, h3, -⟩ := h
  have := World.rowIs.cell h3 (i := 2) (by omega)
  rw [this]
  rfl
set_option maxRecDepth 100000 in
set_option maxHeartbeats 4000000 in
theorem sAt7 (w0 : World) (a : Option Addr) (n cap L : Nat) (R F : List (List Int)) (p k0 q : Nat) (w : World) (hS : SerB w0 a n L R F) (h : IsSer w0 w p a n cap R F k0) (hok : M.okTo R F k0) (hq : q ≤ 200) :
    Calls Try.prog 34 #[.pointer (some ⟨p, 0, none⟩), .int .i64 q] w fun e w' =>
      (∃ k1, q ≤ k1 ∧ k0 ≤ k1 ∧ (k1 = k0 ∨ k1 = q) ∧ M.okTo R F k1 ∧ IsSer w0 w' p a n cap R F k1 ∧ ∃ ra m rc, e = .returned (.tuple #[.slice ra m rc, .bool true]) ∧ Ints .i64 w' ra m (M.sq7 R F q).flatten) ∨
      (∃ j, k0 < j ∧ j ≤ q ∧ M.okTo R F (j - 1) ∧ M.okQ R F j = false ∧ e = .returned (.tuple #[.slice none 0 0, .bool false]) ∧ Below w0.heap.size w0 w') := by
  have HS := Lib.hid hS
  have H0 := Lib.hid h
  have HOk := Lib.hid hok
  have n1 := hS.n1
  have n2 := hS.n2
  have l1 := hS.l1
  have l2 := hS.l2
  have HRB : Hid (∀ i j, i < n → j < n → M.Big (M.ent R i j)) := fun i j hi hj => M.big_sm (hS.sm i j hi hj) (by omega)
  clear hS h hok
  go_enter Try.func34, Try.ntmps34
  go_wp2
  go_loopw [6] (fun _ wr => ∃ k : Nat, k0 ≤ k ∧ (k = k0 ∨ k ≤ q) ∧ Hid (M.okTo R F k) ∧ Hid (IsSer w0 wr p a n cap R F k)) (fun _ wr => q + 1 - lenOf (wr.cell? ⟨p, 2, none⟩))
  case atStart => exact ⟨k0, Nat.le_refl _, .inl rfl, HOk, H0⟩
  case round =>
    obtain ⟨k, hk1, hk2, HOkk, HI⟩ := hrel
    obtain ⟨wo, rfl⟩ : ∃ x, x = wr := ⟨_, rfl⟩
    obtain ⟨hb0, hp, b1, c1, b2, c2, hrow, ho1, ho2⟩ := HI.out
    have HB := Lib.hid hb0
    have HRow := Lib.hid hrow
    have HO1 := Lib.hid ho1
    have HO2 := Lib.hid ho2
    have hpl := World.rowIs.lt hrow
    have s0 : wo.cell? ⟨p, 0, none⟩ = some (.slice a n cap) := World.rowIs.cell hrow (i := 0) (by omega)
    have s1 : wo.cell? ⟨p, 1, none⟩ = some (.slice b1 n c1) := World.rowIs.cell hrow (i := 1) (by omega)
    have s2 : wo.cell? ⟨p, 2, none⟩ = some (.slice b2 (k + 1) c2) := World.rowIs.cell hrow (i := 2) (by omega)
    clear hb0 hrow ho1 ho2
    by_cases hlt : k < q
    · have hle : (k : Int) + 1 ≤ (q : Int) := by omega
      obtain ⟨hrk, hvk⟩ := HS.out.sq (HOkk.out k (Nat.le_refl _))
      have HRk := Lib.hid hrk
      have HVk : Hid (∀ i j, i < n → j < L → M.Big (M.ent (M.sq7 R F k) i j)) := fun i j hi hj => M.big_val (hvk i j hi hj)
      have HNx := Lib.hid (HS.out.next k)
      clear hrk hvk
      go_wp2
      go_region_law (go_simp; go_at_call 58; refine (sMultiplyB a n cap n R b1 c1 L (M.sq7 R F k) _ ?ha ?hb1 HS.out.rect HRk.out HRB.out HVk.out n1 n2 n1 n2 l1 l2).mono ?_; (case ha => exact (HS.out.mat.below HB.out).below (Below.refl _ _).drew); (case hb1 => exact HO1.out.toM.mat.below (Below.refl _ _).drew); rintro e w1 ⟨b3, c3, rfl, ho3, hb3⟩; rw [← HNx.out] at ho3; have HO3 := Lib.hid ho3; have HB3 := Lib.hid hb3; have HR3 := Lib.hid (World.rowIs.of_block (w' := w1) HRow.out (hb3.block p hpl)); have t1 := World.rowIs.cell HR3.out (i := 1) (by omega); have t2 := World.rowIs.frozen HR3.out 1; clear ho3 hb3)
      all_goals
        have HRs := Lib.hid ((World.rowIs.set HR3.out 1 (.slice b3 n c3)).congr (serF_set1 _ _ _ _))
        have HO2s : Hid (OwnP (w1.setCell ⟨p, 1, none⟩ (.slice b3 n c3)) w0.heap.size (fun q => q ≠ p) (.slice b2 (k + 1) c2) (M.sqL R F (k + 1))) := (HO2.out.keep (w' := w1) fun j _ _ hj => HB3.out.block j hj).keep fun j hj _ _ => Below.heap_setCell _ _ _ _ hj
        have HO3s : Hid (OwnP (w1.setCell ⟨p, 1, none⟩ (.slice b3 n c3)) w0.heap.size (fun q => wo.heap.size ≤ q) (.slice b3 n c3) (M.sq7 R F (k + 1))) := ((HO3.out.toP (P := fun q => wo.heap.size ≤ q) fun j h1 _ => h1).mono (HB.out.size)).keep fun j hj _ _ => Below.heap_setCell _ _ _ _ (by show j ≠ p; omega)
        have HLb : Hid (∀ j, (Value.slice b2 (k + 1) c2).ownBlock = some j → j ≠ p ∧ j < wo.heap.size) := fun j hj => by
          obtain ⟨V, q0, q1, -⟩ := HO2.out
          exact ⟨q1 j hj, (own_lt q0.2.1 hj).2⟩
        have HBs : Hid (Below w0.heap.size w0 (w1.setCell ⟨p, 1, none⟩ (.slice b3 n c3))) := (HB.out.trans (((Below.refl _ wo).drew.trans (HB3.out.mono (Nat.le_refl _))).mono HB.out.size)).setCell hp _
        have HI0 := HI
        clear HR3 HO2 HO3 HB3 HRow HO1 HB HI t1 t2 s0 s1 s2
        generalize w1.setCell ⟨p, 1, none⟩ (.slice b3 n c3) = ws at *
        have u1 : ws.cell? ⟨p, 1, none⟩ = some (.slice b3 n c3) := World.rowIs.cell HRs.out (i := 1) (by omega)
        obtain ⟨bv, hbv⟩ : ∃ b, b = M.isMat (M.sq7 R F (k + 1)) := ⟨_, rfl⟩
        have HBv := Lib.hid hbv.symm
        clear hbv
        cases bv with
        | false =>
          go_wp2_with fail
          refine (sIsMatrixB_b _ _ _ (M.sq7 R F (k + 1)) _ false HBv.out HO3s.out.toM.mat).mono ?_
          rintro e w' ⟨rfl, hb⟩
          have HBe := Lib.hid (HBs.out.trans (hb.mono HBs.out.size))
          clear hb u1
          go_wp2
          go_ret2
          exact .inr ⟨k + 1, by omega, by omega, HOkk.out, HBv.out, rfl, HBe.out⟩
        | true =>
          have HOk2 : Hid (M.okTo R F (k + 1)) := fun j hj => by
            by_cases e : j = k + 1
            · subst e; exact HBv.out
            · exact HOkk.out j (by omega)
          have HRk2 := Lib.hid (HS.out.sq (k := k + 1) HBv.out).1
          go_wp2_with fail
          refine (sIsMatrixB_b _ _ _ (M.sq7 R F (k + 1)) _ true HBv.out HO3s.out.toM.mat).mono ?_
          rintro e w2 ⟨rfl, hb⟩
          have HR2 := Lib.hid (World.rowIs.of_block (w' := w2) HRs.out (hb.block p (World.rowIs.lt HRs.out)))
          have HL2 := Lib.hid (HO2s.out.below hb)
          have HM2 := Lib.hid (HO3s.out.below hb)
          have HB2 := Lib.hid (HBs.out.trans (hb.mono HBs.out.size))
          clear hb u1 HRs HO2s HO3s HBs
          have hp2 := World.rowIs.lt HR2.out
          have v1 : w2.cell? ⟨p, 1, none⟩ = some (.slice b3 n c3) := World.rowIs.cell HR2.out (i := 1) (by omega)
          have v2 : w2.cell? ⟨p, 2, none⟩ = some (.slice b2 (k + 1) c2) := World.rowIs.cell HR2.out (i := 2) (by omega)
          have HSl : Hid ((M.sqL R F (k + 1)).length = k + 1) := M.sqL_len _ _ _
          have HSn : Hid (M.sqL R F (k + 1) ++ [(M.sq7 R F (k + 1)).flatten] = M.sqL R F (k + 1 + 1)) := (M.sqL_next _ _ _).symm
          have hz2 : w0.heap.size ≤ w2.heap.size := HB2.out.size
          go_wp2
          go_region_law (first
            | (refine step_appendRowP w2.drew _ rfl _ _ rfl w0.heap.size (fun q => q ≠ p) _ (.slice b4 m4 c4) (M.sqL R F (k + 1)) (M.sq7 R F (k + 1)).flatten (k + 1) _ HSl.out rfl ?hown ?hb ?hro rfl ?hy (by omega) hz2 ?hP ?_; (case hown => exact HL2.out.below (Below.refl _ _).drew); (case hb => exact HB4.out.trans ((b_alloc _ _).mono HB4.out.size)); (case hro => exact HO4.out.below (b_alloc _ _)); (case hy => simp); (case hP => intro j hj; have : w2.heap.size ≤ j := hj; omega); intro b5 c5 w5 ho5 hb5 hk5; rw [HSn.out] at ho5; have HO5 := Lib.hid ho5; have HB5 := Lib.hid hb5; have HR5 := Lib.hid (World.rowIs.of_block (w' := w5) HR4.out ((hk5 p (by simp; have := HB4.out.size; have e : w2.drew.heap.size = w2.heap.size := rfl; omega) (fun e => (HLb.out p e).1 rfl)).trans (Below.heap_alloc _ _ _ (World.rowIs.lt HR4.out)))); have HK5 := Lib.hid hk5; have t2 := World.rowIs.cell HR5.out (i := 2) (by omega); have t3 := World.rowIs.frozen HR5.out 2; clear ho5 hb5 hk5)
            | (go_simp; go_at_call 56; refine (sFlat7 b3 n c3 L (M.sq7 R F (k + 1)) _ ?hm HRk2.out n2 l1 l2).mono ?_; (case hm => exact HM2.out.toM.mat.below (Below.refl _ _).drew); rintro e w4 ⟨b4, m4, c4, rfl, ho4, hb4⟩; have HO4 := Lib.hid ho4; have HB4 := Lib.hid hb4; have HR4 := Lib.hid (World.rowIs.of_block (w' := w4) HR2.out (hb4.block p hp2)); have t4 := World.rowIs.cell HR4.out (i := 2) (by omega); have t5 : ∀ o, (w4.alloc o).cell? ⟨p, 2, none⟩ = some (.slice b2 (k + 1) c2) := (fun o => (World.cell?_alloc_old _ _ _ (Nat.ne_of_lt (World.rowIs.lt HR4.out))).trans t4); clear ho4 hb4))
          all_goals
            have HIn : Hid (IsSer w0 (w5.setCell ⟨p, 2, none⟩ (.slice b5 (k + 1 + 1) c5)) p a n cap R F (k + 1)) := by
              refine ⟨?_, hp, b3, c3, b5, c5, (World.rowIs.set HR5.out 2 (.slice b5 (k + 1 + 1) c5)).congr (serF_set2 _ _ _ _), ?_, ?_⟩
              · have q1 : Below w0.heap.size w0 w4 := HB2.out.trans (((Below.refl _ w2).drew.trans (HB4.out.mono (Nat.le_refl _))).mono hz2)
                have q2 := (q1.trans ((b_alloc w4 (.cells #[.slice b4 m4 c4] 23)).mono q1.size)).trans HB5.out
                exact q2.setCell hp _
              · refine OwnP.imp (P := fun q => wo.heap.size ≤ q) (OwnP.keep (w := w5) (OwnP.keep (w := w2) HM2.out fun j hj h1 h2 => ?_) fun j hj _ _ => Below.heap_setCell _ _ _ _ (by show j ≠ p; omega)) fun j hj => by omega
                have hj4 : j < w4.heap.size := by have := HB4.out.size; have e : w2.drew.heap.size = w2.heap.size := rfl; omega
                exact ((HK5.out j (by simp; omega) (fun e => by have := (HLb.out j e).2; omega)).trans (Below.heap_alloc _ _ _ hj4)).trans (HB4.out.block j h2)
              · exact HO5.out.keep fun j hj _ _ => Below.heap_setCell _ _ _ _ hj
            go_wp2
            go_roundw
            case rel => exact ⟨k + 1, by omega, .inr (by omega), HOk2, HIn⟩
            case measure => rw [serL _ HIn.out, serL _ HI0.out]; omega
    · have hgt : ¬ ((k : Int) + 1 ≤ (q : Int)) := by omega
      have hqk : (q : Int) < (k : Int) + 1 := by omega
      obtain ⟨g2, ra, rc, rfl, hcr, hro⟩ := HO2.out.toM.row q (by omega)
      rw [M.sqL_get (show q < k + 1 by omega)] at hcr hro
      obtain ⟨mm, hmm⟩ : ∃ mm, mm = (M.sq7 R F q).flatten.length := ⟨_, rfl⟩
      rw [← hmm] at hcr hro
      have HRo := Lib.hid hro.ints'
      clear hro hmm
      go_wp2
      go_ret2
      refine .inl ⟨k, by omega, hk1, by omega, HOkk.out, HI.out, ?_⟩
      first
        | exact ⟨ra, mm, rc, rfl, HRo.out⟩
        | exact ⟨ra, mm, ⟨rc, rfl⟩, HRo.out⟩
end Go.Proofs.Ytmcihaihbnnblaa.V

namespace Go.Proofs.Ytmcihaihbnnblaa
namespace M
/-- The column of a vector. -/
def colF (n : Nat) (x : List Int) : List (List Int) := mk n 1 fun i _ => x.getD i 0
theorem isVec_iff {l : List Int} (h1 : 1 ≤ l.length) (h2 : l.length ≤ 10) : isVec l = true ↔ ∀ i, i < l.length → isVal (l.getD i 0) = true := ⟨fun h => (isVec_t h).2.2, fun h => isVec_of h1 h2 h⟩
theorem ok_col {R : List (List Int)} {x : List Int} (hx : x.length = R.length) (n1 : 1 ≤ R.length) (n2 : R.length ≤ 10) (k : Nat) : okQ R (colF R.length x) k = isVec (orb R x k) := by
  unfold okQ colF
  rw [sq7_col hx]
  have hl := orb_len hx k
  apply Bool.eq_iff_iff.2
  rw [isVec_iff (by omega) (by omega)]
  constructor
  · intro h i hi
    have := (isMat_t h).2.2.2.2.2 i (by simpa [← hl] using hi) 0 (by rw [mk_wid _ _ _ (by omega)]; omega)
    rw [ent_mk _ _ _ _ _ (by omega) (by omega)] at this
    exact this
  · intro h
    exact isMat_mk n1 n2 (Nat.le_refl _) (by omega) fun i hi j hj => h i (by omega)
theorem sqL_col {R : List (List Int)} {x : List Int} (hx : x.length = R.length) (k : Nat) : sqL R (colF R.length x) k = orbL R x k := List.map_congr_left fun i _ => orb_flat hx i
end M
namespace V
set_option maxRecDepth 100000
open Go.RowKit
set_option maxRecDepth 100000 in
set_option maxHeartbeats 400000 in
theorem sCode7 (a : Option Addr) (n cap : Nat) (R : List (List Int)) (a' : Option Addr) (N cap' : Nat) (l : List Int) (w : World) (h : Mat w a n R) (h' : Ints .i64 w a' N l) :
    Calls Try.prog 30 #[.slice a n cap, .slice a' N cap'] w fun e w' => e = .returned (.int .i64 (M.orbCode R l)) ∧ Below w.heap.size w w' := by
  have HA := Lib.hid h
  have HI := Lib.hid h'
  have hRn : R.length = n := h.1
  have hln : l.length = N := h'.1
  obtain ⟨v1, hv1⟩ : ∃ v, v = M.sqB R := ⟨_, rfl⟩
  have HV1 := Lib.hid hv1.symm
  cases v1 with
  | false =>
    have HE : Hid (M.orbCode R l = 1) := by show _ = _; unfold M.orbCode; rw [← hv1]; rfl
    clear h h' hv1 hRn hln
    go_enter Try.func30, Try.ntmps30
    go_wp2_with (go_at_call 55; refine (sSquare_b _ _ _ R _ false HV1.out HA.out).mono ?_; rintro e w' ⟨rfl, q, rfl⟩)
    go_ret
    rw [HE.out]
    exact ⟨rfl, b_draws _ _⟩
  | true =>
    obtain ⟨v2, hv2⟩ : ∃ v, v = M.isVec l := ⟨_, rfl⟩
    have HV2 := Lib.hid hv2.symm
    cases v2 with
    | false =>
      have HE : Hid (M.orbCode R l = 1) := by show _ = _; unfold M.orbCode; rw [← hv1, ← hv2]; rfl
      clear h h' hv1 hv2 hRn hln
      go_enter Try.func30, Try.ntmps30
      go_wp2_with (first | (go_at_call 55; refine (sSquare_b _ _ _ R _ true HV1.out HA.out).mono ?_; rintro e w' ⟨rfl, q, rfl⟩) | (go_at_call 39; refine (sVector_b _ _ _ l _ false HV2.out (HI.out.below (b_draws _ _))).mono ?_; rintro e w' ⟨rfl, rfl⟩))
      go_ret
      rw [HE.out]
      exact ⟨rfl, b_draws _ _⟩
    | true =>
      by_cases hl : N = n
      · subst hl
        have HE : Hid (M.orbCode R l = 0) := by show _ = _; unfold M.orbCode; rw [← hv1, ← hv2, if_pos (by rfl), if_pos (by omega)]
        clear h h' hv1 hv2 hRn hln
        go_enter Try.func30, Try.ntmps30
        go_wp2_with (first | (go_at_call 55; refine (sSquare_b _ _ _ R _ true HV1.out HA.out).mono ?_; rintro e w' ⟨rfl, q, rfl⟩) | (go_at_call 39; refine (sVector_b _ _ _ l _ true HV2.out (HI.out.below (b_draws _ _))).mono ?_; rintro e w' ⟨rfl, rfl⟩))
        go_ret
        rw [HE.out]
        exact ⟨rfl, b_draws _ _⟩
      · have HE : Hid (M.orbCode R l = 5) := by show _ = _; unfold M.orbCode; rw [← hv1, ← hv2, if_pos (by rfl), if_neg (by omega)]
        have hne : ((N : Int) != (n : Int)) = true := by simp; omega
        clear h h' hv1 hv2 hRn hln
        go_enter Try.func30, Try.ntmps30
        go_wp2_with (first | (go_at_call 55; refine (sSquare_b _ _ _ R _ true HV1.out HA.out).mono ?_; rintro e w' ⟨rfl, q, rfl⟩) | (go_at_call 39; refine (sVector_b _ _ _ l _ true HV2.out (HI.out.below (b_draws _ _))).mono ?_; rintro e w' ⟨rfl, rfl⟩))
        go_ret
        rw [HE.out]
        exact ⟨rfl, b_draws _ _⟩
set_option maxRecDepth 100000 in
set_option maxHeartbeats 400000 in
theorem sColumn7 (a : Option Addr) (n cap : Nat) (l : List Int) (w : World) (h : Ints .i64 w a n l) (n1 : 1 ≤ n) (n2 : n ≤ 10) :
    Calls Try.prog 33 #[.slice a n cap] w (MPost n (M.colF n l) w) := by
  have HI := Lib.hid h
  have HE : Hid (M.mk n 1 (fun i j => M.ent [l] j i) = M.colF n l) := by
    show _ = _
    exact M.mk_congr fun i _ j hj => by obtain rfl : j = 0 := by omega
                                        rfl
  have H1T : Hid (Rect [l] 1 n) := ⟨rfl, fun i hi => by obtain rfl : i = 0 := by omega
                                                        exact h.1⟩
  clear h
  go_enter Try.func33, Try.ntmps33
  go_wp2_with fail
  refine (sTurn _ _ _ n [l] _ (mat_one w _ _ _ l HI.out) H1T.out (by omega) (by omega) n1 n2).mono ?_
  rintro e w1 ⟨a1, cap1, rfl, ho1, hb1⟩
  rw [HE.out] at ho1
  have HB1 := Lib.hid (bel1 hb1)
  have HO1 := Lib.hid (ho1.mono (B' := w.heap.size) (by simp))
  clear ho1 hb1
  go_wp2
  go_ret
  exact ⟨_, _, rfl, HO1.out, HB1.out⟩
theorem serB_col {w : World} {a : Option Addr} {n : Nat} {R : List (List Int)} {x : List Int} (h : Mat w a n R) (hs : M.sqB R = true) : SerB w a n 1 R (M.colF n x) := by
  obtain ⟨hr, n1, n2, hsm⟩ := sq_parts7 h hs
  exact ⟨h, hr, n1, n2, hsm, by unfold M.colF; simp, by unfold M.colF; exact M.mk_wid _ _ _ (by omega), Nat.le_refl _, by omega⟩
set_option maxRecDepth 100000 in
set_option maxHeartbeats 4000000 in
theorem sOrbitOf (a : Option Addr) (n cap : Nat) (R : List (List Int)) (a' : Option Addr) (N cap' : Nat) (l : List Int) (m : Int) (w : World) (h : Mat w a n R) (h' : Ints .i64 w a' N l) :
    Calls Try.prog 7 #[.slice a n cap, .slice a' N cap', .int .i64 m] w (MRes (M.orbRes R l m) w) := by
  have HA := Lib.hid h
  have HI := Lib.hid h'
  obtain ⟨k0, hk0⟩ : ∃ k, k = M.orbCode R l := ⟨_, rfl⟩
  have HK := Lib.hid hk0.symm
  by_cases hk : k0 = 0
  · subst hk
    obtain ⟨hs, hx, hl⟩ := M.orbCode_t hk0.symm
    obtain ⟨hr, n1, n2, hsm⟩ := sq_parts7 h hs
    have hRn : R.length = n := h.1
    have hNn : N = n := by rw [← h'.1, hl]; exact hRn
    subst hNn
    by_cases hm : 0 ≤ m ∧ m ≤ 100
    · obtain ⟨q, rfl⟩ := Int.eq_ofNat_of_zero_le hm.1
      have hq : q ≤ 100 := by omega
      have hd : (decide ((0 : Int) ≤ (q : Int)) && decide ((q : Int) ≤ 100)) = true := by simp; omega
      have HE : Hid (M.orbRes R l (q : Int) = if (M.orbL R l (q + 1)).all M.isVec then (M.orbL R l (q + 1), 0) else ([], 3)) := by show _ = _; unfold M.orbRes; rw [← hk0, if_pos rfl, if_pos hm]; rfl
      have HSB : Hid (∀ w' : World, Below w.heap.size w w' → SerB w' a N 1 R (M.colF N l)) := fun w' hb => serB_col (HA.out.below hb) hs
      have HOc : Hid (∀ k, M.okQ R (M.colF N l) k = M.isVec (M.orb R l k)) := fun k => by rw [← hRn]; exact M.ok_col hl (by omega) (by omega) k
      have HLc : Hid (∀ k, M.sqL R (M.colF N l) k = M.orbL R l k) := fun k => by rw [← hRn]; exact M.sqL_col hl k
      have HFr : Hid (Rect (M.colF N l) N 1) := rect_mk _ _ _
      have H0 : Hid (M.okTo R (M.colF N l) 0) := fun j hj => by
        obtain rfl : j = 0 := by omega
        rw [HOc.out]; exact hx
      clear h h' hk0 hs hx hl hr hsm hRn hm
      go_enter Try.func7, Try.ntmps7
      go_wp2_with (first | (go_at_call 30; refine (sCode7 _ _ _ R _ _ _ l _ HA.out HI.out).mono ?_; rintro e w1 ⟨rfl, hb⟩; have HB1 := Lib.hid hb; clear hb; rw [HK.out]) | (go_at_call 31; refine (sIn _ _ _ _).mono ?_; rintro e w' ⟨rfl, rfl⟩; rw [hd]))
      refine (sColumn7 _ _ _ l _ (HI.out.below HB1.out) n1 n2).mono ?_
      rintro e w2 ⟨b2, c2, rfl, ho, hb⟩
      have HO2 := Lib.hid ho
      have HB2 := Lib.hid hb
      clear ho hb
      go_wp2_with fail
      refine (sStart7 w1 a N cap 1 R (M.colF N l) b2 c2 _ HB2.out HO2.out HFr.out n2 (Nat.le_refl _) (by omega)).mono ?_
      rintro e w3 ⟨p, rfl, hs⟩
      have HS3 := Lib.hid hs
      clear hs
      go_wp2_with fail
      refine (sAt7 w1 a N cap 1 R (M.colF N l) p 0 q _ (HSB.out _ HB1.out) HS3.out H0.out (by omega)).mono ?_
      rintro e w4 (⟨k1, hk1, -, hk2, hok, hs, ra, m4, rc, rfl, -⟩ | ⟨j, hj1, hj2, -, hno, rfl, hb⟩)
      · have hkq : k1 = q := by omega
        subst hkq
        have HAll : Hid ((M.orbL R l (k1 + 1)).all M.isVec = true) := by
          show _ = _
          rw [List.all_eq_true]
          intro x hx
          obtain ⟨i, hi, rfl⟩ := List.mem_map.1 hx
          rw [← HOc.out]
          exact hok i (by have := List.mem_range.1 hi; omega)
        obtain ⟨hb0, hp, b1, c1, b5, c5, hrow, -, ho2⟩ := hs
        rw [HLc.out] at ho2
        have s2 : w4.cell? ⟨p, 2, none⟩ = some (.slice b5 (k1 + 1) c5) := World.rowIs.cell hrow (i := 2) (by omega)
        have HO4 := Lib.hid ho2.toM
        have HB4 := Lib.hid (HB1.out.trans (hb0.mono HB1.out.size))
        clear hb0 hrow ho2 hok
        go_wp2
        go_ret2
        rw [HE.out, HAll.out]
        exact ⟨_, _, _, rfl, HO4.out.mono HB1.out.size, HB4.out⟩
      · have HAll : Hid ((M.orbL R l (q + 1)).all M.isVec = false) := M.orb_all_not (k := j) (by omega) (by rw [← HOc.out]; exact hno)
        have HB4 := Lib.hid (HB1.out.trans (hb.mono HB1.out.size))
        clear hno hb
        go_wp2
        go_ret2
        exact MRes.nil (by rw [HE.out, HAll.out]; rfl) HB4.out
    · have HE : Hid (M.orbRes R l m = ([], 2)) := by show _ = _; unfold M.orbRes; rw [← hk0, if_pos rfl, if_neg hm]
      have hd : (decide ((0 : Int) ≤ m) && decide (m ≤ 100)) = false := by
        cases e : (decide ((0 : Int) ≤ m) && decide (m ≤ 100)) with
        | false => rfl
        | true => simp at e; exact absurd e hm
      clear h h' hk0 hs hx hl hr hsm hRn hm
      go_enter Try.func7, Try.ntmps7
      go_wp2_with (first | (go_at_call 30; refine (sCode7 _ _ _ R _ _ _ l _ HA.out HI.out).mono ?_; rintro e w1 ⟨rfl, hb⟩; have HB1 := Lib.hid hb; clear hb; rw [HK.out]) | (go_at_call 31; refine (sIn _ _ _ _).mono ?_; rintro e w' ⟨rfl, rfl⟩; rw [hd]))
      go_ret2
      exact MRes.nil HE.out HB1.out
  · have HE : Hid (M.orbRes R l m = ([], k0)) := by show _ = _; unfold M.orbRes; rw [← hk0, if_neg hk]
    have hk2 : (k0 != 0) = true := by simpa using hk
    have hk3 : (k0 == 0) = false := by simpa using hk
    clear h h' hk0 hk
    go_enter Try.func7, Try.ntmps7
    go_wp2_with (first | (go_at_call 30; refine (sCode7 _ _ _ R _ _ _ l _ HA.out HI.out).mono ?_; rintro e w1 ⟨rfl, hb⟩; have HB1 := Lib.hid hb; clear hb; rw [HK.out]))
    go_ret2
    exact MRes.nil HE.out HB1.out
end V
end Go.Proofs.Ytmcihaihbnnblaa

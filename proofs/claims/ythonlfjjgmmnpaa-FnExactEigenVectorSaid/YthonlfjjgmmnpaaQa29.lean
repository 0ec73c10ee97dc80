/- Texts laid together: Sev, OpenM. -/
import Derived.Test.YthonlfjjgmmnpaaQa28
import Derived.Test.YthonlfjjgmmnpaaQa26
import Derived.Test.YthonlfjjgmmnpaaRows
import Derived.Test.YthonlfjjgmmnpaaQa1
import Derived.Test.YthonlfjjgmmnpaaQa2
import Derived.WalkKit
import Derived.ProofKit
import Derived.WalkSmall
import Derived.Deep.QuietTactic
import Derived.BigQuiet
import Derived.BigRegion
import Derived.Deep.Draws
import Derived.Deep.OwnRows
import Derived.Maps.AppendAt
import Derived.Deep.Onto
import Derived.Lib.Hide
import Derived.Test.YthonlfjjgmmnpaaQa3
import Derived.Deep.Matrix
namespace Go.Proofs.Ythonlfjjgmmnpaa
namespace V
set_option maxRecDepth 100000
open Go.RowKit
set_option maxRecDepth 100000 in
set_option maxHeartbeats 4000000 in
theorem sEigenVector (a : Option Addr) (n cap : Nat) (R : List (List Int)) (w : World) (h : Mat w a n R) :
    Calls Try.prog 22 #[.slice a n cap] w (EPost (M.eigRes R) w) := by
  have HA := Lib.hid h
  have hRn : R.length = n := h.1
  have HRn := Lib.hid hRn
  have HB0 : Hid (Below w.heap.size w (w.alloc (.cells #[.int .i64 0, .int .i64 0] 39))) := b_alloc _ _
  by_cases hc : (M.cycMeanRes R).2 = 0
  · obtain ⟨c, L, hs, hcyc, hnear, hp, hq, hcl, hvx, hov⟩ := M.eig_t hc
    have hE : M.eigRes R = M.eigOk R := by unfold M.eigRes; rw [if_pos hc]
    have hcm := (M.cyc_t hc).2.2.2
    have hrow := M.eig_row hcl hvx
    unfold M.stcM at hrow
    rw [hRn] at hcyc hnear hp hcl hov hcm hrow
    obtain ⟨hr, n1, n2, hsm⟩ := sq_parts h hs
    have HR := Lib.hid hr
    have HSm := Lib.hid hsm
    have HQ := Lib.hid (sq_of h hs)
    obtain ⟨r, hrr⟩ : ∃ r, r = M.bestR (M.ent R) n := ⟨_, rfl⟩
    have hOk : M.eigOk R = if M.isVec (M.eigL R) then (M.eigL R, r, 0) else ([], (0, 0), 3) := by unfold M.eigOk; rw [hRn, hrr]
    rw [← hrr] at hnear hp hov hcm hrow
    have HNear := Lib.hid hnear
    have HP := Lib.hid hp
    have HSs := Lib.hid hs
    have HB2 : Hid (M.best2 R = M.bestCyc R) := by show _ = _; unfold M.best2; rw [hRn, hcyc, if_pos rfl]
    have HOv := Lib.hid hov
    have HCm := Lib.hid hcm
    have HRow := Lib.hid hrow
    have HQq := Lib.hid hq
    obtain ⟨r1, r2⟩ := r
    have HBm : Hid (∀ i j, i < n → j < n → M.Sm 1000001000000 (M.bestF (M.shf (M.ent R) r1 r2) n i j)) := fun i j hi hj => by
      unfold M.bestF
      split
      · exact M.sh_sm HSm.out HNear.out i j hi hj
      · exact .inl rfl
    obtain ⟨l, hl⟩ : ∃ l, l = M.eigL R := ⟨_, rfl⟩
    obtain ⟨bv, hbv⟩ : ∃ b, b = M.isVec l := ⟨_, rfl⟩
    have HV := Lib.hid hbv.symm
    have hll : l.length = n := by rw [hl, M.eigL_len, hRn]
    have HLl := Lib.hid hll
    have HE : Hid (M.eigRes R = if bv then (l, (r1, r2), 0) else ([], (0, 0), 3)) := by show _ = _; rw [hE, hOk, ← hl, ← hbv]
    rw [← hl] at HRow
    have hci : (c : Int) < (n : Int) := by omega
    clear hRn h hc hs hcyc hnear hp hq hvx hov hE hcm hrow hr hsm hrr hOk hl hbv hll
    go_enter Try.func22, Try.ntmps22
    go_wp2_with fail
    refine (sCycleMean _ _ _ R _ (HA.out.below HB0.out)).mono ?_
    rintro e w1 ⟨rfl, hb⟩
    rw [HCm.out]
    have HB1 := Lib.hid hb
    clear hb
    obtain ⟨wb, hwb⟩ : ∃ x, x = w1.alloc (rbox r1 r2) := ⟨_, rfl⟩
    have HX : Hid (Boxed w1 wb r1 r2) := by show Boxed _ _ _ _; rw [hwb]; exact boxed _ _ _
    have HBx := Lib.hid (HB1.out.trans (HX.out.below.mono HB1.out.size))
    have HBy := Lib.hid (HB0.out.trans (HBx.out.mono HB0.out.size))
    go_wp2_with fail
    change Calls _ _ _ (w1.alloc (rbox r1 r2)) _
    rw [← hwb]
    clear hwb
    refine (sBest _ _ _ R _ (HA.out.below HBy.out) HSs.out).mono ?_
    rintro e w4 ⟨b4, n4, c4, rfl, ho, hb⟩
    rw [HB2.out, HQq.out] at ho
    obtain ⟨cb, co, x0, rfl, hcb, hx0, cx0⟩ := ho.ints'.at 0 (by rw [ho.len]; simp)
    have hn4 : 0 < n4 := by rw [ho.len]; simp
    rw [Nat.add_zero] at cx0
    have hx1 : x0 = (c : Int) := hx0
    clear hx0
    subst hx1
    have HB4 := Lib.hid hb
    clear ho hb
    obtain ⟨p0, p1⟩ := HX.out.cells HB4.out
    go_wp2_with fail
    refine (sShift _ _ _ R r1 r2 _ (HA.out.below (HBy.out.trans (HB4.out.mono HBy.out.size))) HR.out n1 n2 HSm.out HNear.out).mono ?_
    rintro e w5 ⟨b5, c5, rfl, ho, hb⟩
    have HSq5 : Hid (Sq w5 b5 n (M.mk n n (M.shf (M.ent R) r1 r2))) := ⟨ho.mat, rect_mk _ _ _, fun i j hi hj => by rw [M.ent_mk _ _ _ _ _ hi hj]; exact M.sh_sm HSm.out HNear.out i j hi hj, n1, n2⟩
    have HB5 := Lib.hid (HB4.out.trans (hb.mono HB4.out.size))
    have hcx5 := (hb.cell (p := ⟨cb, co, none⟩) (cell_lt cx0)).trans cx0
    have hcb5 : cb < w5.heap.size := Nat.lt_of_lt_of_le (cell_lt cx0) hb.size
    clear ho hb cx0 p0 p1
    go_wp2_with fail
    refine (sStar _ _ _ (M.mk n n (M.shf (M.ent R) r1 r2)) _ HSq5.out).mono ?_
    rintro e w6 ⟨b6, c6, rfl, ho, hb⟩
    have hnp : M.noPos (M.ent (M.mk n n (M.shf (M.ent R) r1 r2))) n = true := by rw [M.noPos_mk]; exact HP.out
    rw [M.bm_star n2 HSq5.out.2.2.1 hnp, M.starM_mk] at ho
    rw [hnp]
    clear hnp
    obtain ⟨m6, hm6⟩ : ∃ m6, m6 = n := ⟨_, rfl⟩
    subst hm6
    have HO6 := Lib.hid ho
    have HB6 := Lib.hid (HB5.out.trans (hb.mono HB5.out.size))
    have cx6 := (hb.cell (p := ⟨cb, co, none⟩) hcb5).trans hcx5
    have hcb6 : cb < w6.heap.size := Nat.lt_of_lt_of_le hcb5 hb.size
    clear ho hb hcx5 hcb5
    go_wp2
    go_region_with (go_at_call 38; refine (sTurn _ _ _ m6 (M.mk m6 m6 (M.starF (M.shf (M.ent R) r1 r2) m6)) _ (HO6.out.mat.below (below_drewN (Below.refl _ _) _)) (rect_mk _ _ _) n1 n2 n1 n2).mono ?_; rintro e w7 ⟨b7, c7, rfl, ho, hb⟩; obtain ⟨g7, ra7, rc7, rfl, hcr7, hro7⟩ := ho.row c hcl; rw [HRow.out, HLl.out] at hcr7 hro7; have cx7 := (hb.cell (p := ⟨cb, co, none⟩) hcb6).trans cx6; have HO7 := Lib.hid hro7; have HB7 := Lib.hid ((below_drewN (Below.refl w6.heap.size w6) _).trans hb); clear hro7 ho hb)
    all_goals
      have HB8 := Lib.hid (HBx.out.trans ((HB6.out.trans (HB7.out.mono HB6.out.size)).mono HBx.out.size))
      have HX7 := HX.out.cells (HB6.out.trans (HB7.out.mono HB6.out.size))
      obtain ⟨p0, p1⟩ := HX7
      have hz8 := HB8.out.size
      simp at hz8
      obtain ⟨hcc, hff⟩ := bcell HB8.out
      have z1 : w.heap.size < w7.heap.size := by omega
      have hlt6 : w.heap.size < w6.heap.size := by have h1 := HB6.out.size; have h2 := HBx.out.size; simp at h2; omega
      have hlo : w.heap.size ≤ w6.heap.size := by omega
      cases bv with
      | false =>
        go_wp2_with fail
        refine (sVector_b _ _ _ l _ false HV.out HO7.out.ints').mono ?_
        rintro e w' ⟨rfl, rfl⟩
        go_wp2
        exact bodyPost_ret (v := .tuple #[.slice none 0 0, .agg #[.int .i64 0, .int .i64 0], .int .i64 3]) (by simp [results, Try.results22, go_sem, z1, hcc]) rfl (EPost.nil HE.out (bel1s HB8.out))
      | true =>
        go_wp2_with fail
        refine (sVector_b _ _ _ l _ true HV.out HO7.out.ints').mono ?_
        rintro e w' ⟨rfl, rfl⟩
        go_wp2
        go_region
        all_goals (try go_wp2)
        all_goals
          exact bodyPost_ret (v := .tuple #[.slice ra7 m6 rc7, .agg #[.int .i64 r1, .int .i64 r2], .int .i64 0]) (by simp [results, Try.results22, go_sem, z1, hcc]) rfl (by
            rw [HE.out]
            refine ⟨ra7, m6, rc7, rfl, (HO7.out.keep fun k k1 _ => ?_).mono hlo, by first | exact bel1s HB8.out | exact bel1s (below_drewN HB8.out 1)⟩
            have k2 : w6.heap.size ≤ k := k1
            exact (Below.heap_setCell _ _ _ k (by show k ≠ w.heap.size; omega)).trans (Below.heap_setCell _ _ _ k (by show k ≠ w.heap.size; omega)))
  · have HE : Hid (M.eigRes R = ([], (0, 0), (M.cycMeanRes R).2)) := by show _ = _; unfold M.eigRes; rw [if_neg hc]
    obtain ⟨r, hr⟩ : ∃ r, r = M.cycMeanRes R := ⟨_, rfl⟩
    rw [← hr] at hc HE
    have HR := Lib.hid hr.symm
    obtain ⟨⟨r1, r2⟩, r3⟩ := r
    have hr3 : (r3 != 0) = true := by simpa using hc
    clear h hc hr
    go_enter Try.func22, Try.ntmps22
    go_wp2_with fail
    refine (sCycleMean _ _ _ R _ (HA.out.below HB0.out)).mono ?_
    rintro e w1 ⟨rfl, hb⟩
    rw [HR.out]
    have hz := hb.size
    simp at hz
    obtain ⟨hcc, hff⟩ := bcell hb
    have z1 : w.heap.size < w1.heap.size := by omega
    go_wp2
    exact bodyPost_ret (v := .tuple #[.slice none 0 0, .agg #[.int .i64 0, .int .i64 0], .int .i64 r3]) (by simp [results, Try.results22, go_sem, z1, hcc]) rfl (EPost.nil HE.out ((bel1s hb).alloc (bel1s hb).size _))
end V
end Go.Proofs.Ythonlfjjgmmnpaa

namespace Go.Proofs.Ythonlfjjgmmnpaa.V
open Go.RowKit Go.ChangeShapes Go.WideShapes Go.Deep

theorem mat_open {H : Type} {enc : TypeId × Value → H} {P : Program} {w : World} {base : Nat} {held : Bool} {t e q : TypeId} {fuel : Nat} {cs : List Value} {x : DataW H × List MemPlace} (ht : P.underlying t = some (.slice e)) (he : P.underlying e = some (.slice q)) (hq : P.underlying q = some (.int .i64))
    (ce : P.cellsOf e = 1) (cq : P.cellsOf q = 1) (h : DataW.trod enc P w base (fun _ => true) held fuel t cs = some x) :
    ∃ a len cap R, cs = [.slice a len cap] ∧ Mat w a len R := by
  rcases open_int_rows ht he hq ce cq h with ⟨rfl, -⟩ | ⟨a, len, cap, A, L, C, Z, rfl, hb, hl, hm, -, hr⟩
  · exact ⟨none, 0, 0, [], rfl, rfl, Nat.zero_le _, .inl rfl⟩
  · refine ⟨some a, len, cap, (List.range len).map fun r => (Z r).take (L r), rfl, by simp, by omega, ?_⟩
    by_cases h0 : len = 0
    · exact .inl h0
    · have hsp : a.spot = none := by
        have := (hr 0 (by omega)).1
        simpa [Addr.add] using World.cell?_spot this
      obtain ⟨b, off, spot⟩ := a
      simp only at hsp
      subst hsp
      refine .inr ⟨b, off, rfl, ?_, fun i hi => ?_⟩
      · have := cell_lt (hr 0 (by omega)).1
        simpa [Addr.add] using this
      · obtain ⟨h1, h2, h3, h4, h5, h6, h7⟩ := hr i (by omega)
        have eR : ((List.range len).map fun r => (Z r).take (L r)).getD i [] = (Z i).take (L i) := by simp [hi]
        rw [eR]
        have eL : ((Z i).take (L i)).length = L i := by rw [List.length_take]; omega
        rw [eL]
        refine ⟨A i, C i, by rw [← Go.WideShapes.add_plain]; exact h1, eL, by omega, ?_⟩
        by_cases hL : L i = 0
        · exact .inl hL
        · cases hA : A i with
          | none => have := h6 hA; omega
          | some a' =>
            obtain ⟨-, hc⟩ := h7 a' hA
            obtain ⟨b', off', rfl, hc'⟩ := ints_at (k := .i64) (zs := Z i) (fun j hj => hc j (by omega)) (by omega)
            refine .inr ⟨b', off', rfl, cell_lt (hc' 0 (by omega)), fun j hj => ?_⟩
            rw [hc' j (by omega)]
            simp [List.getD_eq_getElem?_getD, hj]
end Go.Proofs.Ythonlfjjgmmnpaa.V

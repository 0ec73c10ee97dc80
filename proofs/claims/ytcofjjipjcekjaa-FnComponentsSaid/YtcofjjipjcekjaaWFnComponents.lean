/- The walk through the law: it returns true and writes nothing that was there. For every code: components divide the nodes, two nodes of one reach each other, and ComponentsOf, CanReach and IsIrreducible answer as their models. -/
import Derived.Test.YtcofjjipjcekjaaRows
import Derived.Test.YtcofjjipjcekjaaQa1
import Derived.Test.YtcofjjipjcekjaaQa2
import Derived.Test.YtcofjjipjcekjaaQa17
import Derived.Test.YtcofjjipjcekjaaQa16
import Derived.Test.YtcofjjipjcekjaaQa12
import Derived.Test.YtcofjjipjcekjaaQa13
import Derived.Test.YtcofjjipjcekjaaQa14
import Derived.WalkKit
import Derived.ProofKit
import Derived.OpenShut
import Derived.ShutString
import Derived.ChangeOld
import Derived.Below
import Derived.Lib.SmallJoins
import Derived.Lib.Hide
import Derived.WalkSmall
import Derived.Deep.Draws
import Derived.Deep.QuietTactic
import Derived.BigQuiet
import Derived.Deep.OwnRows
import Derived.Deep.RegionWith
import Derived.Deep.RegionHeld3
set_option linter.unusedSimpArgs false
set_option linter.unusedVariables false
set_option linter.unusedSectionVars false
namespace Go.Proofs.Ytcofjjipjcekjaa.fnComponents
open Go.ChangeShapes Go.WideShapes Go.ChangeAt Go.RowKit
open Go.ChangeMaps (open_string shut_string)
set_option linter.unusedVariables false

theorem irr_cmps (R : List (List Int)) : M.irrRes R = ((((M.cmpsRes R).1.length : Int) == 1), (M.cmpsRes R).2) := by
  unfold M.irrRes M.cmpsRes
  by_cases h : M.sqB R = true
  · rw [if_pos h, if_pos h]
    obtain ⟨n1, -, -⟩ := M.sq_sm h
    rw [M.irr_eq n1]
    congr 1
    apply Bool.eq_iff_iff.2
    rw [decide_eq_true_eq, beq_iff_eq]
    show (M.compsL (M.ent R) R.length).length = 1 ↔ (((M.compsL (M.ent R) R.length).length : Nat) : Int) = 1
    omega
  · rw [if_neg h, if_neg h]; rfl
theorem pre_next (L : List (List Int)) (k : Nat) (h : k < L.length) : M.pre L (k + 1) = M.pre L k + (L.getD k []).length := by
  unfold M.pre
  rw [List.map_take, List.map_take, List.take_add_one, List.sum_append, List.getD_eq_getElem?_getD, List.getElem?_eq_getElem h, List.getElem?_map, List.getElem?_eq_getElem h]
  simp
theorem mem_getD {L : List (List Int)} {k : Nat} (h : k < L.length) : L.getD k [] ∈ L := by
  rw [List.getD_eq_getElem?_getD, List.getElem?_eq_getElem h, Option.getD_some]
  exact List.getElem_mem h
/-- Nodes of one component reach each other. -/
theorem comp_can {R : List (List Int)} (hs : M.sqB R = true) {k i : Nat} (hk : k < (M.compsL (M.ent R) R.length).length) (hi : i < ((M.compsL (M.ent R) R.length).getD k []).length) :
    M.canRes R (((M.compsL (M.ent R) R.length).getD k []).getD 0 0) (((M.compsL (M.ent R) R.length).getD k []).getD i 0) = (true, 0) ∧ M.canRes R (((M.compsL (M.ent R) R.length).getD k []).getD i 0) (((M.compsL (M.ent R) R.length).getD k []).getD 0 0) = (true, 0) := by
  obtain ⟨x, y, hx, hy, ex, ey, rx, ry⟩ := M.comp_rch (mem_getD hk) (i := 0) (j := i) (by omega) hi
  rw [ex, ey]
  have ix : M.inN R.length (x : Int) = true := by unfold M.inN; rw [decide_eq_true (by omega), decide_eq_true (by omega)]; rfl
  have iy : M.inN R.length (y : Int) = true := by unfold M.inN; rw [decide_eq_true (by omega), decide_eq_true (by omega)]; rfl
  unfold M.canRes
  rw [if_pos hs, if_pos hs, ix, iy]
  simp [rx, ry]
theorem keepC {w0 w1 w2 : World} {p q r : Addr} {x y z : Value} (h : w1.cell? p = some x ∧ w1.cell? q = some y ∧ w1.cell? r = some z ∧ Below w0.heap.size w0 w1) (hp : p.block < w0.heap.size) (hq : q.block < w0.heap.size) (hr : r.block < w0.heap.size) (hb : Below w1.heap.size w1 w2) :
    w2.cell? p = some x ∧ w2.cell? q = some y ∧ w2.cell? r = some z ∧ Below w0.heap.size w0 w2 := by
  obtain ⟨h1, h2, h3, h4⟩ := h
  have hs := h4.size
  exact ⟨(hb.cell (by omega)).trans h1, (hb.cell (by omega)).trans h2, (hb.cell (by omega)).trans h3, h4.trans (hb.mono hs)⟩

set_option maxRecDepth 100000 in
set_option maxHeartbeats 4000000 in
theorem walk (a0 : Option Addr) (len0 cap0 : Nat) (z0 : List Int) (w : World) (w0 : V.IsRow .u8 w a0 len0 cap0 z0) :
    Calls Try.prog 3 #[.slice a0 len0 cap0] w fun e w' => e = .returned (.bool true) ∧ Below w.heap.size w w' := by
  have hB := w0.bytes
  have hm := hB.1
  by_cases hbig : 4096 < len0
  · have hd : decide (4096 < len0) = true := by simpa using hbig
    clear hB w0
    go_enter Try.func3, Try.ntmps3
    go_wp2_with (first | (go_at_call 14; refine (V.big _ _ _ _ hm).mono ?_; rintro e w' ⟨rfl, rfl⟩))
    go_ret
    exact ⟨rfl, Below.refl _ _⟩
  · have hd : decide (4096 < len0) = false := by simpa using hbig
    clear w0
    have HB := Lib.hid hB
    clear hB
    go_enter Try.func3, Try.ntmps3
    go_wp2_with (go_at_call 14; refine (V.big _ _ _ _ hm).mono ?_; rintro e w' ⟨rfl, rfl⟩)
    refine (V.drawComponentsOf _ _ _ _ HB.out).mono ?_
    rintro e w1 ⟨a, n, cap, R, rfl, hA, hb⟩
    have HA := Lib.hid hA
    have HRn := Lib.hid hA.1
    have HB1 := Lib.hid hb
    have HY1 := Lib.hid (HB.out.below hb)
    clear hb hA
    obtain ⟨rv, hrv⟩ : ∃ rv, rv = M.cmpsRes R := ⟨_, rfl⟩
    have HQ := Lib.hid (irr_cmps R)
    have HOk := Lib.hid (M.cmps_ok R)
    rw [← hrv] at HQ HOk
    have HRV := Lib.hid hrv
    clear hrv
    go_wp2_with fail
    refine (V.componentsOfX _ _ _ R _ HA.out).mono ?_
    rintro e w2 ⟨ga, gn, gc, rfl, ho, hb⟩
    rw [← HRV.out] at ho ⊢
    have HG2 := Lib.hid ho
    have hgl : gn = rv.1.length := ho.len
    have HA2 := Lib.hid (HA.out.below hb)
    have HY2 := Lib.hid (HY1.out.below hb)
    have HB2 := Lib.hid (HB1.out.trans (hb.mono HB1.out.size))
    clear ho hb HA HY1
    go_wp2_with fail
    refine (V.sComponentsOfX _ _ _ R _ HA2.out).mono ?_
    rintro e w3 ⟨sa, sn, sc, rfl, ho, hb⟩
    rw [← HRV.out] at ho ⊢
    have hsl : sn = rv.1.length := ho.len
    have HS3 := Lib.hid ho.mat
    have HG3 := Lib.hid (HG2.out.below hb)
    have HA3 := Lib.hid (HA2.out.below hb)
    have HY3 := Lib.hid (HY2.out.below hb)
    have HB3 := Lib.hid (HB2.out.trans (hb.mono HB2.out.size))
    clear ho hb HA2 HY2 HG2
    go_wp2_with fail
    refine (V.drawCanReach _ _ _ _ HY3.out).mono ?_
    rintro e w4 ⟨ba, bn, bc, Rb, x, y, rfl, hM, hb⟩
    have HM4 := Lib.hid hM
    have HS4 := Lib.hid (HS3.out.below hb)
    have HG4 := Lib.hid (HG3.out.below hb)
    have HA4 := Lib.hid (HA3.out.below hb)
    have HB4 := Lib.hid (HB3.out.trans (hb.mono HB3.out.size))
    clear hM hb HA3 HY3 HG3 HS3
    obtain ⟨pv, hpv⟩ : ∃ pv, pv = M.canRes Rb x y := ⟨_, rfl⟩
    have HPV := Lib.hid hpv
    clear hpv
    go_wp2_with fail
    refine (V.canReach _ _ _ Rb x y _ HM4.out).mono ?_
    rintro e w5 ⟨rfl, hb⟩
    rw [← HPV.out]
    have HM5 := Lib.hid (HM4.out.below hb)
    have HS5 := Lib.hid (HS4.out.below hb)
    have HG5 := Lib.hid (HG4.out.below hb)
    have HA5 := Lib.hid (HA4.out.below hb)
    have HB5 := Lib.hid (HB4.out.trans (hb.mono HB4.out.size))
    clear hb HA4 HG4 HS4 HM4
    go_wp2_with fail
    refine (V.sCanReach _ _ _ Rb x y _ HM5.out).mono ?_
    rintro e w6 ⟨rfl, hb⟩
    rw [← HPV.out]
    have HS6 := Lib.hid (HS5.out.below hb)
    have HG6 := Lib.hid (HG5.out.below hb)
    have HA6 := Lib.hid (HA5.out.below hb)
    have HB6 := Lib.hid (HB5.out.trans (hb.mono HB5.out.size))
    clear hb HA5 HG5 HS5 HM5
    go_wp2_with fail
    refine (V.isIrreducible _ _ _ R _ HA6.out).mono ?_
    rintro e w7 ⟨rfl, hb⟩
    rw [HQ.out]
    have HS7 := Lib.hid (HS6.out.below hb)
    have HG7 := Lib.hid (HG6.out.below hb)
    have HA7 := Lib.hid (HA6.out.below hb)
    have HB7 := Lib.hid (HB6.out.trans (hb.mono HB6.out.size))
    clear hb HA6 HG6 HS6
    subst hgl hsl
    obtain ⟨pb, pc⟩ := pv
    go_wp2_with fail
    refine (V.likeM _ _ _ rv.1 _ _ _ _ HG7.out.mat HS7.out).mono ?_
    rintro e w8 ⟨rfl, hb⟩
    have HG8 := Lib.hid (HG7.out.below hb)
    have HA8 := Lib.hid (HA7.out.below hb)
    have HB8 := Lib.hid (HB7.out.trans (hb.mono HB7.out.size))
    clear hb HA7 HG7 HS7
    by_cases hc : rv.2 = 0
    · have hsq : M.sqB R = true := by
        have h := HRV.out
        unfold M.cmpsRes at h
        by_cases k : M.sqB R = true
        · exact k
        · rw [if_neg k] at h; rw [h] at hc; simp at hc
      have hrv1 : rv.1 = M.compsL (M.ent R) R.length := by rw [HRV.out]; unfold M.cmpsRes; rw [if_pos hsq]
      have HCan : Hid (∀ k i, k < rv.1.length → i < (rv.1.getD k []).length → M.canRes R ((rv.1.getD k []).getD 0 0) ((rv.1.getD k []).getD i 0) = (true, 0) ∧ M.canRes R ((rv.1.getD k []).getD i 0) ((rv.1.getD k []).getD 0 0) = (true, 0)) := fun k i hk hi => by
        rw [hrv1] at hk hi ⊢
        exact comp_can hsq hk hi
      have HSum : Hid (M.pre rv.1 rv.1.length = n) := by
        show _ = _
        rw [hrv1, M.pre_sum, M.sum_compsL, HRn.out]
      have HLen := Lib.hid HOk.out
      clear hsq hrv1
      obtain ⟨L, rc⟩ := rv
      have hc2 : rc = 0 := hc
      clear hc
      subst hc2
      have HLen2 : Hid (M.pre L L.length ≤ 100 ∧ L.length ≤ 10) := HLen.out
      have HSum2 : Hid (M.pre L L.length = n) := HSum.out
      have HCan2 : Hid (∀ k i, k < L.length → i < (L.getD k []).length → M.canRes R ((L.getD k []).getD 0 0) ((L.getD k []).getD i 0) = (true, 0) ∧ M.canRes R ((L.getD k []).getD i 0) ((L.getD k []).getD 0 0) = (true, 0)) := HCan.out
      have HG9 : Hid (V.OwnM w8 w1.heap.size (.slice ga L.length gc) L) := HG8.out
      clear HLen HSum HCan HG8 HOk HQ HRV
      have hL10 := HLen2.out.2
      go_wp2
      go_loopw [17, 18, 19, 20, 21, 22, 23] (fun cv kv _ _ _ _ _ wr => ∃ k : Nat, k ≤ L.length ∧ kv = .int .i64 k ∧ cv = .int .i64 (M.pre L k : Nat) ∧ Hid (Below w8.heap.size w8 wr)) (fun _ kv _ _ _ _ _ _ => L.length - (intOf kv).toNat)
      case atStart => exact ⟨0, Nat.zero_le _, rfl, rfl, Below.refl _ _⟩
      case round =>
        obtain ⟨k, hk, rfl, rfl, HBk⟩ := hrel
        by_cases hkl : k < L.length
        · have hki : (k : Int) < (L.length : Int) := by omega
          obtain ⟨g, ra, rc, hga, cr, -⟩ := (HG9.out.below HBk.out).row k hkl
          subst hga
          have hnx := pre_next L k hkl
          have hmono : M.pre L (k + 1) ≤ 100 := by
            have h := HLen2.out.1
            have e : M.pre L (k + 1) ≤ M.pre L L.length := by
              have hm : ∀ d, k + 1 + d ≤ L.length → M.pre L (k + 1) ≤ M.pre L (k + 1 + d) := fun d => by
                induction d with
                | zero => intro _; exact Nat.le_refl _
                | succ d ih => intro hd; have := pre_next L (k + 1 + d) (by omega); have := ih (by omega); rw [← Nat.add_assoc]; omega
              have := hm (L.length - (k + 1)) (by omega)
              rw [show k + 1 + (L.length - (k + 1)) = L.length by omega] at this
              exact this
            omega
          have HCk : Hid (∀ i, i < (L.getD k []).length → M.canRes R ((L.getD k []).getD 0 0) ((L.getD k []).getD i 0) = (true, 0) ∧ M.canRes R ((L.getD k []).getD i 0) ((L.getD k []).getD 0 0) = (true, 0)) := fun i hi => HCan2.out k i hkl hi
          have HRw : Hid (∀ wr, Below w8.heap.size w8 wr → ∃ g2 ra2 rc2, (some ⟨g, 0, none⟩ : Option Addr) = some ⟨g2, 0, none⟩ ∧ wr.cell? ⟨g2, k, none⟩ = some (.slice ra2 (L.getD k []).length rc2) ∧ V.Own wr w1.heap.size (.slice ra2 (L.getD k []).length rc2) (L.getD k [])) := fun wr hb => (HG9.out.below hb).row k hkl
          obtain ⟨pk, hpk⟩ : ∃ pk, pk = M.pre L k := ⟨_, rfl⟩
          obtain ⟨pn, hpn⟩ : ∃ pn, pn = M.pre L (k + 1) := ⟨_, rfl⟩
          rw [← hpk, ← hpn] at hnx
          rw [← hpn] at hmono
          rw [← hpk]
          generalize L.getD k [] = l at *
          have HPn := Lib.hid hpn
          clear hpk hpn
          go_wp2
          clear cr
          go_loopw [19, 20, 21, 22, 23] (fun iv _ _ _ _ wr => ∃ i : Nat, i ≤ l.length ∧ iv = .int .i64 i ∧ Hid (Below w8.heap.size w8 wr)) (fun iv _ _ _ _ _ => l.length - (intOf iv).toNat)
          case atStart => exact ⟨0, Nat.zero_le _, rfl, HBk⟩
          case round =>
            clear HBk
            obtain ⟨i, hi, rfl, HBi⟩ := hrel
            obtain ⟨g2, ra2, rc2, hgg, cr, hro⟩ := HRw.out _ HBi.out
            injection hgg with hgg
            injection hgg with hgg
            subst hgg
            by_cases hil : i < l.length
            · have hii : (i : Int) < (l.length : Int) := by omega
              have hl0 : (0 : Int) < (l.length : Int) := by omega
              have hl1 : 0 < l.length := by omega
              have hl2 : l ≠ [] := by rintro rfl; simp at hl1
              obtain ⟨h1, h2⟩ := HCk.out i hil
              have H1 := Lib.hid h1
              have H2 := Lib.hid h2
              obtain ⟨cb, co, x0, hra, hcb, hx0, cx0⟩ := hro.ints'.at 0 (by omega)
              obtain ⟨cb2, co2, xi, hra2, -, hxi, cxi⟩ := hro.ints'.at i hil
              subst hra
              injection hra2 with hra2
              injection hra2 with e1 e2
              subst e1 e2
              rw [Nat.add_zero] at cx0
              rw [← hx0, ← hxi] at H1 H2
              have HAr := Lib.hid (HA8.out.below HBi.out)
              have hzg : g < wr.heap.size := V.cell_lt cr
              clear h1 h2 hx0 hxi hro
              go_wp2
              go_region_held3 (fun w' => w'.cell? ⟨g, k, none⟩ = some (.slice (some ⟨cb, co, none⟩) l.length rc2) ∧ w'.cell? ⟨cb, co, none⟩ = some (.int .i64 x0) ∧ w'.cell? ⟨cb, co + i, none⟩ = some (.int .i64 xi) ∧ Below wr.heap.size wr w')
                (first | exact ⟨cr, cx0, cxi, (Below.refl _ _).drew⟩ | exact keepC ‹_ ∧ _ ∧ _ ∧ Below _ _ _› hzg hcb hcb hb)
                (first | (go_at_call 19; refine (V.canReach _ _ _ R x0 xi _ ?hm).mono ?_; (case hm => exact HAr.out.below (‹_ ∧ _ ∧ _ ∧ Below _ _ _›).2.2.2); rintro e wy ⟨rfl, hb⟩; rw [H1.out]))
              have hS : wy.cell? ⟨g, k, none⟩ = some (.slice (some ⟨cb, co, none⟩) l.length rc2) ∧ wy.cell? ⟨cb, co, none⟩ = some (.int .i64 x0) ∧ wy.cell? ⟨cb, co + i, none⟩ = some (.int .i64 xi) ∧ Below wr.heap.size wr wy := ‹_ ∧ _ ∧ _ ∧ Below _ _ wy›
              have hcby : cb < wy.heap.size := by have := hS.2.2.2.size; omega
              have hzgy : g < wy.heap.size := by have := hS.2.2.2.size; omega
              have HBy := Lib.hid hS.2.2.2
              have HAy := Lib.hid (HAr.out.below hS.2.2.2)
              obtain ⟨dr, d0, di, -⟩ := hS
              clear hb cr cx0 cxi
              clear ‹_ ∧ _ ∧ _ ∧ Below _ _ wy›
              go_wp2
              go_region_held3 (fun w' => w'.cell? ⟨g, k, none⟩ = some (.slice (some ⟨cb, co, none⟩) l.length rc2) ∧ w'.cell? ⟨cb, co, none⟩ = some (.int .i64 x0) ∧ w'.cell? ⟨cb, co + i, none⟩ = some (.int .i64 xi) ∧ Below wy.heap.size wy w')
                (first | exact ⟨dr, d0, di, (Below.refl _ _).drew⟩ | exact keepC ‹_ ∧ _ ∧ _ ∧ Below _ _ _› hzgy hcby hcby hb)
                (first | (go_at_call 19; refine (V.canReach _ _ _ R xi x0 _ ?hm).mono ?_; (case hm => exact HAy.out.below (‹_ ∧ _ ∧ _ ∧ Below _ _ _›).2.2.2); rintro e wz ⟨rfl, hb⟩; rw [H2.out]))
              have hS : wz.cell? ⟨g, k, none⟩ = some (.slice (some ⟨cb, co, none⟩) l.length rc2) ∧ wz.cell? ⟨cb, co, none⟩ = some (.int .i64 x0) ∧ wz.cell? ⟨cb, co + i, none⟩ = some (.int .i64 xi) ∧ Below wy.heap.size wy wz := ‹_ ∧ _ ∧ _ ∧ Below _ _ wz›
              have HBz := Lib.hid ((HBi.out.trans (HBy.out.mono HBi.out.size)).trans (hS.2.2.2.mono (Nat.le_trans HBi.out.size HBy.out.size)))
              clear hS hb dr d0 di
              go_wp2
              go_roundw
              case rel => exact ⟨i + 1, by omega, by go_num, HBz⟩
              case measure => simp [intOf]; omega
            · obtain rfl : i = l.length := by omega
              go_wp2
              go_roundw
              case rel => exact ⟨k + 1, by omega, by go_num, by rw [← HPn.out, hnx]; go_num, HBi⟩
              case measure => simp [intOf]; omega
        · obtain rfl : k = L.length := by omega
          have hs := HSum2.out
          rw [hs]
          clear hs
          go_wp2
          go_ret
          exact ⟨rfl, HB8.out.trans (HBk.out.mono HB8.out.size)⟩
    · go_wp2
      go_ret
      exact ⟨rfl, HB8.out⟩
end Go.Proofs.Ytcofjjipjcekjaa.fnComponents

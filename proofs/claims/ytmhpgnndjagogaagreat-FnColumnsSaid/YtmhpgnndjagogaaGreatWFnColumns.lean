/- The walk through the law: it returns true and writes nothing that was there. For every code: EigenColumns answers as its model, there is one column for each critical component, and each is an eigenvector for the cycle mean. -/
import Derived.Test.YtmhpgnndjagogaaGreatRows
import Derived.Test.YtmhpgnndjagogaaGreatQz1
import Derived.Test.YtmhpgnndjagogaaGreatQz2
import Derived.Test.YtmhpgnndjagogaaGreatQz19
import Derived.Test.YtmhpgnndjagogaaGreatQz18
import Derived.Test.YtmhpgnndjagogaaGreatQz9
import Derived.Test.YtmhpgnndjagogaaGreatQz14
import Derived.Test.YtmhpgnndjagogaaGreatQz22
import Derived.Test.YtmhpgnndjagogaaGreatQz17
import Derived.WalkKit
import Derived.ProofKit
import Derived.OpenShut
import Derived.ShutString
import Derived.ChangeOld
import Derived.Below
import Derived.Lib.SmallJoins
import Derived.Lib.Hide
import Derived.WalkSmall
import Derived.Deep.Draws
import Derived.Deep.QuietTactic
import Derived.BigQuiet
import Derived.Deep.OwnRows
import Derived.Deep.RegionWith
import Derived.Deep.RegionHeld3
set_option linter.unusedSimpArgs false
set_option linter.unusedVariables false
set_option linter.unusedSectionVars false
namespace Go.Proofs.YtmhpgnndjagogaaGreat.fnColumns
open Go.ChangeShapes Go.WideShapes Go.ChangeAt Go.RowKit
open Go.ChangeMaps (open_string shut_string)
set_option linter.unusedVariables false

theorem keepE {w0 w1 w2 : World} {p q r : Addr} {x y z : Value} (h : w1.cell? p = some x ∧ w1.cell? q = some y ∧ w1.cell? r = some z ∧ Below w0.heap.size w0 w1) (hp : p.block < w0.heap.size) (hq : q.block < w0.heap.size) (hr : r.block < w0.heap.size) (hb : Below w1.heap.size w1 w2) :
    w2.cell? p = some x ∧ w2.cell? q = some y ∧ w2.cell? r = some z ∧ Below w0.heap.size w0 w2 := by
  obtain ⟨h1, h2, h3, h4⟩ := h
  have hs := h4.size
  exact ⟨(hb.cell (by omega)).trans h1, (hb.cell (by omega)).trans h2, (hb.cell (by omega)).trans h3, h4.trans (hb.mono hs)⟩

set_option maxRecDepth 100000 in
set_option maxHeartbeats 4000000 in
theorem walk (a0 : Option Addr) (len0 cap0 : Nat) (z0 : List Int) (w : World) (w0 : V.IsRow .u8 w a0 len0 cap0 z0) :
    Calls Tryz.prog 6 #[.slice a0 len0 cap0] w fun e w' => e = .returned (.bool true) ∧ Below w.heap.size w w' := by
  have hB := w0.bytes
  have hm := hB.1
  by_cases hbig : 4096 < len0
  · have hd : decide (4096 < len0) = true := by simpa using hbig
    clear hB w0
    go_enter Tryz.func6, Tryz.ntmps6
    go_wp2_with (first | (go_at_call 11; refine (V.big _ _ _ _ hm).mono ?_; rintro e w' ⟨rfl, rfl⟩))
    go_ret
    exact ⟨rfl, Below.refl _ _⟩
  · have hd : decide (4096 < len0) = false := by simpa using hbig
    clear w0
    have HB := Lib.hid hB
    clear hB
    go_enter Tryz.func6, Tryz.ntmps6
    go_wp2_with (go_at_call 11; refine (V.big _ _ _ _ hm).mono ?_; rintro e w' ⟨rfl, rfl⟩)
    refine (V.drawEigenColumns _ _ _ _ HB.out).mono ?_
    rintro e w1 ⟨a, n, cap, R, rfl, hA, hb⟩
    have HA := Lib.hid hA
    have HB1 := Lib.hid hb
    clear hb hA
    obtain ⟨rv, hrv⟩ : ∃ rv, rv = M.colsRes R := ⟨_, rfl⟩
    have HRV := Lib.hid hrv
    clear hrv
    go_wp2_with fail
    refine (V.eigenColumns _ _ _ R _ HA.out).mono ?_
    rintro e w2 ⟨ga, gn, gc, rfl, ho, hb⟩
    rw [← HRV.out] at ho ⊢
    have HG2 := Lib.hid ho
    have hgl : gn = rv.1.length := ho.len
    have HA2 := Lib.hid (HA.out.below hb)
    have HB2 := Lib.hid (HB1.out.trans (hb.mono HB1.out.size))
    clear ho hb HA
    subst hgl
    go_wp2_with fail
    refine (V.sEigenColumns _ _ _ R _ HA2.out).mono ?_
    rintro e w3 ⟨sa, sn, sc, rfl, ho, hb⟩
    rw [← HRV.out] at ho ⊢
    have hsl : sn = rv.1.length := ho.len
    have HS3 := Lib.hid ho.mat
    have HG3 := Lib.hid (HG2.out.below hb)
    have HA3 := Lib.hid (HA2.out.below hb)
    have HB3 := Lib.hid (HB2.out.trans (hb.mono HB2.out.size))
    clear ho hb HA2 HG2
    subst hsl
    go_wp2_with fail
    refine (V.likeM _ _ _ rv.1 _ _ _ _ HG3.out.mat HS3.out).mono ?_
    rintro e w4 ⟨rfl, hb⟩
    have HG4 := Lib.hid (HG3.out.below hb)
    have HA4 := Lib.hid (HA3.out.below hb)
    have HB4 := Lib.hid (HB3.out.trans (hb.mono HB3.out.size))
    clear hb HA3 HG3 HS3
    by_cases hc : rv.2 = 0
    · obtain ⟨h0, hv, he, hk, hkl, hl10⟩ := M.cols_t (R := R) (by rw [← HRV.out]; exact hc)
      rw [← HRV.out] at he
      obtain ⟨L, hL⟩ : ∃ L, L = M.colsL R := ⟨_, rfl⟩
      have HEig : Hid ((M.cycMeanRes R).2 = 0 → ∀ k, k < L.length → M.eigB R (M.cycMeanRes R).1.1 (M.cycMeanRes R).1.2 (L.getD k []) = true) := fun q k hk => by rw [hL] at hk ⊢; exact M.cols_eig h0 hv q hk
      rw [← hL] at he hkl hl10
      have HKe := Lib.hid hk
      have HKl := Lib.hid hkl
      subst he
      clear hc h0 hv hk hkl hL HRV
      have HG5 : Hid (V.OwnM w4 w1.heap.size (.slice ga L.length gc) L) := HG4.out
      clear HG4
      obtain ⟨cv, hcv⟩ : ∃ cv, cv = M.cycMeanRes R := ⟨_, rfl⟩
      rw [← hcv] at HEig
      have HCV := Lib.hid hcv
      clear hcv
      obtain ⟨⟨c1, c2⟩, c3⟩ := cv
      go_wp2_with fail
      refine (V.criticalComponentsX _ _ _ R _ HA4.out).mono ?_
      rintro e w5 ⟨ka, kn, kc, rfl, ho, hb⟩
      rw [HKe.out] at ho ⊢
      have hkn : kn = L.length := ho.len.trans HKl.out
      subst hkn
      have HG6 := Lib.hid (HG5.out.below hb)
      have HA5 := Lib.hid (HA4.out.below hb)
      have HB5 := Lib.hid (HB4.out.trans (hb.mono HB4.out.size))
      clear ho hb HA4 HG5
      go_wp2_with fail
      refine (V.cycleMean _ _ _ R _ HA5.out).mono ?_
      rintro e w6 ⟨rfl, hb⟩
      rw [← HCV.out]
      obtain ⟨wx, hwx⟩ : ∃ z, z = w6.alloc (V.rbox c1 c2) := ⟨_, rfl⟩
      have HX : Hid (V.Boxed w6 wx c1 c2) := by show V.Boxed _ _ _ _; rw [hwx]; exact V.boxed _ _ _
      have HD := Lib.hid (hb.trans (HX.out.below.mono hb.size))
      have HG7 := Lib.hid (HG6.out.below HD.out)
      have HA6 := Lib.hid (HA5.out.below HD.out)
      have HB6 := Lib.hid (HB5.out.trans (HD.out.mono HB5.out.size))
      clear hb HG6 HA5 HD
      go_wp2
      change Code.wp _ _ _ _ (w6.alloc (V.rbox c1 c2))
      rw [← hwx]
      clear hwx
      go_loopw [12] (fun kv wr => ∃ k : Nat, k ≤ L.length ∧ kv = .int .i64 k ∧ Hid (Below wx.heap.size wx wr)) (fun kv _ => L.length - (intOf kv).toNat)
      case atStart => exact ⟨0, Nat.zero_le _, rfl, Below.refl _ _⟩
      case round =>
        obtain ⟨k, hk, rfl, HBk⟩ := hrel
        obtain ⟨wo, rfl⟩ : ∃ x, x = wr := ⟨_, rfl⟩
        by_cases hkl : k < L.length
        · have hki : (k : Int) < (L.length : Int) := by omega
          obtain ⟨g, ra, rc, hga, cr, hro⟩ := (HG7.out.below HBk.out).row k hkl
          subst hga
          by_cases hc3 : c3 = 0
          · subst hc3
            have ht := HEig.out rfl k hkl
            obtain ⟨l, hl⟩ : ∃ l, l = L.getD k [] := ⟨_, rfl⟩
            rw [← hl] at ht cr hro
            have HT := Lib.hid ht
            clear ht hl
            obtain ⟨p0, p1⟩ := HX.out.cells HBk.out
            have hpl : w6.heap.size < wo.heap.size := by have := HX.out.size; have := HBk.out.size; omega
            have hgl : g < wo.heap.size := V.cell_lt cr
            have HAk := Lib.hid (HA6.out.below HBk.out)
            have HRo := Lib.hid hro.ints'
            clear hro
            go_wp2
            go_region_held3 (fun w' => w'.cell? ⟨w6.heap.size, 0, none⟩ = some (.int .i64 c1) ∧ w'.cell? ⟨w6.heap.size, 1, none⟩ = some (.int .i64 c2) ∧ w'.cell? ⟨g, k, none⟩ = some (.slice ra l.length rc) ∧ Below wo.heap.size wo w')
              (first | exact ⟨p0, p1, cr, (Below.refl _ _).drew⟩ | exact keepE ‹_ ∧ _ ∧ _ ∧ Below _ _ _› hpl hpl hgl hb)
              (first | (go_at_call 44; refine (V.isEigenVector _ _ _ R c1 c2 _ _ _ l _ ?hm ?hi).mono ?_; (case hm => exact HAk.out.below (‹_ ∧ _ ∧ _ ∧ Below _ _ _›).2.2.2); (case hi => exact HRo.out.below (‹_ ∧ _ ∧ _ ∧ Below _ _ _›).2.2.2); rintro e wy ⟨rfl, hb⟩; rw [HT.out]))
            all_goals
              have hS : Below wo.heap.size wo wy := (‹_ ∧ _ ∧ _ ∧ Below _ _ wy›).2.2.2
              have HBy := Lib.hid (HBk.out.trans (hS.mono HBk.out.size))
              go_wp2
              go_roundw
              case rel => exact ⟨k + 1, by omega, by go_num, HBy⟩
              case measure => simp [intOf]; omega
          · have hc3b : (c3 == 0) = false := by simpa using hc3
            clear cr hro
            go_wp2
            go_quiet (fail)
            go_wp2
            go_roundw
            case rel => exact ⟨k + 1, by omega, by go_num, below_drewN HBk.out _⟩
            case measure => simp [intOf]; omega
        · obtain rfl : k = L.length := by omega
          go_wp2
          go_ret
          exact ⟨rfl, HB6.out.trans (HBk.out.mono HB6.out.size)⟩
    · have hcb : (rv.2 != 0) = true := by simpa using hc
      go_wp2
      go_ret
      exact ⟨rfl, HB4.out⟩
end Go.Proofs.YtmhpgnndjagogaaGreat.fnColumns

/- The walk through the law: it returns true and writes nothing that was there. For every code: PowerEntry answers as its model, and the entry that it tells is that of the power. -/
import Derived.Test.YtcofjjipjcekjabRows
import Derived.Test.YtcofjjipjcekjabQb1
import Derived.Test.YtcofjjipjcekjabQb2
import Derived.Test.YtcofjjipjcekjabQb17
import Derived.Test.YtcofjjipjcekjabQb14
import Derived.Test.YtcofjjipjcekjabQb9
import Derived.Test.YtcofjjipjcekjabQb8
import Derived.Test.YtcofjjipjcekjabQb16
import Derived.WalkKit
import Derived.ProofKit
import Derived.OpenShut
import Derived.ShutString
import Derived.ChangeOld
import Derived.Below
import Derived.Lib.SmallJoins
import Derived.Lib.Hide
import Derived.WalkSmall
import Derived.Deep.Draws
import Derived.Deep.QuietTactic
import Derived.BigQuiet
import Derived.Deep.OwnRows
import Derived.Deep.RegionWith
import Derived.Deep.RegionHeld3
set_option linter.unusedSimpArgs false
set_option linter.unusedVariables false
set_option linter.unusedSectionVars false
namespace Go.Proofs.Ytcofjjipjcekjab.fnGreatPowers
open Go.ChangeShapes Go.WideShapes Go.ChangeAt Go.RowKit
open Go.ChangeMaps (open_string shut_string)
set_option linter.unusedVariables false

set_option maxRecDepth 100000 in
set_option maxHeartbeats 4000000 in
theorem walk (a0 : Option Addr) (len0 cap0 : Nat) (z0 : List Int) (w : World) (w0 : V.IsRow .u8 w a0 len0 cap0 z0) :
    Calls Try.prog 4 #[.slice a0 len0 cap0] w fun e w' => e = .returned (.bool true) ∧ Below w.heap.size w w' := by
  have hB := w0.bytes
  have hm := hB.1
  by_cases hbig : 4096 < len0
  · have hd : decide (4096 < len0) = true := by simpa using hbig
    clear hB w0
    go_enter Try.func4, Try.ntmps4
    go_wp2_with (first | (go_at_call 14; refine (V.big _ _ _ _ hm).mono ?_; rintro e w' ⟨rfl, rfl⟩))
    go_ret
    exact ⟨rfl, Below.refl _ _⟩
  · have hd : decide (4096 < len0) = false := by simpa using hbig
    clear w0
    have HB := Lib.hid hB
    clear hB
    go_enter Try.func4, Try.ntmps4
    go_wp2_with (go_at_call 14; refine (V.big _ _ _ _ hm).mono ?_; rintro e w' ⟨rfl, rfl⟩)
    refine (V.drawPowerEntry _ _ _ _ HB.out).mono ?_
    rintro e w1 ⟨a, n, cap, R, N, i, j, rfl, hA, hb⟩
    have HA := Lib.hid hA
    have HB1 := Lib.hid hb
    clear hb hA
    obtain ⟨rv, hrv⟩ : ∃ rv, rv = M.peRes R N i j := ⟨_, rfl⟩
    have HRV := Lib.hid hrv
    have hlaw := M.gp_law (R := R) (n := N) (i := i) (j := j)
    rw [← hrv] at hlaw
    clear hrv
    obtain ⟨v, d⟩ := rv
    go_wp2_with fail
    refine (V.powerEntry _ _ _ R N i j _ HA.out).mono ?_
    rintro e w2 ⟨rfl, hb⟩
    rw [← HRV.out]
    have HA2 := Lib.hid (HA.out.below hb)
    have HB2 := Lib.hid (V.bnext HB1.out hb)
    clear hb HA HB1
    go_wp2_with fail
    refine (V.sPowerEntry _ _ _ R N i j _ HA2.out).mono ?_
    rintro e w3 ⟨rfl, hb⟩
    rw [← HRV.out]
    have HA3 := Lib.hid (HA2.out.below hb)
    have HB3 := Lib.hid (V.bnext HB2.out hb)
    clear hb HA2 HB2
    by_cases hd0 : d = 0
    · subst hd0
      by_cases hN : N ≤ 100
      · obtain ⟨ni, jn, rfl, rfl, hi, hj, hor⟩ := hlaw rfl hN
        have hN' : ¬ (100 < N) := by omega
        obtain ⟨pv, hpv⟩ : ∃ pv, pv = M.powRes R N := ⟨_, rfl⟩
        rw [← hpv] at hor
        have HPV := Lib.hid hpv
        clear hpv
        obtain ⟨P, pd⟩ := pv
        have HOr := Lib.hid hor
        clear hor
        go_wp2_with fail
        refine (V.powerMatrix _ _ _ R N _ HA3.out).mono ?_
        rintro e w4 ⟨pa, pn, pc, rfl, ho, hb⟩
        rw [← HPV.out] at ho ⊢
        have HB4 := Lib.hid (V.bnext HB3.out hb)
        rcases HOr.out with h3 | ⟨h0, hl, hr, hx⟩
        · have h3 : pd = 3 := h3
          subst h3
          clear ho hb
          go_wp2
          go_ret
          exact ⟨rfl, HB4.out⟩
        · have h0 : pd = 0 := h0
          subst h0
          have hl : P.length = R.length := hl
          have hr : (P.getD ni []).length = R.length := hr
          have hx : M.ent P ni jn = v := hx
          have ho : V.OwnM w4 w3.heap.size (.slice pa pn pc) P := ho
          have hpn : pn = P.length := ho.len
          have hni : ni < pn := by omega
          obtain ⟨g, q, L, c, x, rfl, -, -, hL, hx2, hc1, hc2, -⟩ := ho.at ni jn hni (by omega)
          have hxv : x = v := hx2.trans hx
          have k1 : (ni : Int) < (pn : Int) := by omega
          have k2 : (jn : Int) < (L : Int) := by omega
          subst hxv
          clear hx2 hx hL hr hl hpn ho hb hi hj
          go_wp2
          go_ret
          exact ⟨rfl, HB4.out⟩
      · have hN' : 100 < N := by omega
        go_wp2
        go_ret
        exact ⟨rfl, HB3.out⟩
    · have hd1 : (d != 0) = true := by simpa using hd0
      go_wp2
      go_ret
      exact ⟨rfl, HB3.out⟩
end Go.Proofs.Ytcofjjipjcekjab.fnGreatPowers

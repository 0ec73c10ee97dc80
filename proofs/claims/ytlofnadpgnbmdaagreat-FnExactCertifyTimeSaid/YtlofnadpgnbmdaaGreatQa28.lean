/- Texts laid together: Lvf. -/
import Derived.Test.YtlofnadpgnbmdaaGreatQa27
import Derived.Test.YtlofnadpgnbmdaaGreatQa12
import Derived.Test.YtlofnadpgnbmdaaGreatQa18
import Derived.Test.YtlofnadpgnbmdaaGreatQa16
import Derived.Deep.RegionWith
import Derived.Deep.RegionHeld3
set_option linter.unusedSimpArgs false
set_option linter.unusedVariables false
set_option linter.unusedSectionVars false
namespace Go.Proofs.YtlofnadpgnbmdaaGreat
namespace M
def liveRes (x : Int) (l : List Pc) : Bool × Int := if isGr x l then (decide ((deadQ l x.toNat).length = 0), 0) else (false, 1)
def lvCode (x : Int) (l : List Pc) : Int := if isGr x l then (if (deadQ l x.toNat).length = 0 then 0 else 5) else 1
end M
namespace V
set_option maxRecDepth 100000
open Go.RowKit
theorem keep4 {w0 w1 w2 : World} {G H : Nat} {i j k m : Nat} {p q r s : Value} (h : w1.cell? ⟨G, i, none⟩ = some p ∧ w1.cell? ⟨G, j, none⟩ = some q ∧ w1.cell? ⟨H, k, none⟩ = some r ∧ w1.cell? ⟨H, m, none⟩ = some s ∧ Below w0.heap.size w0 w1) (hb : Below w1.heap.size w1 w2) :
    w2.cell? ⟨G, i, none⟩ = some p ∧ w2.cell? ⟨G, j, none⟩ = some q ∧ w2.cell? ⟨H, k, none⟩ = some r ∧ w2.cell? ⟨H, m, none⟩ = some s ∧ Below w0.heap.size w0 w2 := by
  obtain ⟨h1, h2, h3, h4, h5⟩ := h
  exact ⟨(hb.cell (cell_lt h1)).trans h1, (hb.cell (cell_lt h2)).trans h2, (hb.cell (cell_lt h3)).trans h3, (hb.cell (cell_lt h4)).trans h4, h5.trans (hb.mono h5.size)⟩
set_option maxRecDepth 100000 in
set_option maxHeartbeats 1000000 in
theorem sDead (N : Nat) (a : Option Addr) (n cap : Nat) (l : List M.Pc) (w : World) (h : Pls w a n l) (hg : M.isGr (N : Int) l = true) :
    Calls Tryz.prog 98 #[.agg #[.int .i64 N, .slice a n cap]] w fun e w' => ∃ b m c, e = .returned (.slice b m c) ∧ Own w' w.heap.size (.slice b m c) (M.deadQ l N) ∧ Below w.heap.size w w' := by
  have hb0 := b_alloc w (.cells #[.int .i64 N, .slice a n cap] 26)
  have HC := Lib.hid (sFree N a n cap l _ (h.below hb0) hg)
  have hGb := gBox_new w N a n cap 26
  obtain ⟨wb, hwb⟩ : ∃ z, z = w.alloc (.cells #[.int .i64 N, .slice a n cap] 26) := ⟨_, rfl⟩
  rw [← hwb] at hb0 hGb HC
  obtain ⟨g0, g1⟩ := hGb
  have HB0 := Lib.hid hb0
  obtain ⟨n1, n2, -⟩ := gr_N hg
  have HSq : Hid (M.sqB (M.wtM M.fNil N l) = true) := M.wt_isMat n1 n2 fun p _ => M.nil_val p
  have HE : Hid (M.overL (M.ent (M.wtM M.fNil N l)) N (-1) = M.deadQ l N) := M.over_nil n2
  clear h hg hb0
  go_enter Tryz.func98, Tryz.ntmps98
  go_wp2_with fail
  rw [← hwb]
  clear hwb
  refine HC.out.mono ?_
  rintro e w1 ⟨b, c, rfl, ho, hb⟩
  have HQ := Lib.hid (sq_of ho.mat HSq.out)
  have HB := Lib.hid (HB0.out.trans (hb.mono HB0.out.size))
  clear ho hb g0 g1
  go_wp2_with fail
  refine (sOver _ _ _ _ _ _ HQ.out).mono ?_
  rintro e w2 ⟨b2, m2, c2, rfl, ho, hb⟩
  rw [HE.out] at ho
  have HO := Lib.hid (ho.mono HB.out.size)
  have HB2 := Lib.hid (HB.out.trans (hb.mono HB.out.size))
  clear ho hb
  go_wp2
  go_ret
  exact ⟨_, _, _, rfl, HO.out, HB2.out⟩
set_option maxRecDepth 100000 in
set_option maxHeartbeats 2000000 in
theorem sLive (x : Int) (a : Option Addr) (n cap : Nat) (l : List M.Pc) (w : World) (h : Pls w a n l) :
    Calls Tryz.prog 48 #[.agg #[.int .i64 x, .slice a n cap]] w fun e w' => e = .returned (.int .i64 (M.lvCode x l)) ∧ Below w.heap.size w w' := by
  have HI := Lib.hid h
  have hb0 := b_alloc w (.cells #[.int .i64 x, .slice a n cap] 26)
  have hG := gBox_new w x a n cap 26
  obtain ⟨wb, hwb⟩ : ∃ z, z = w.alloc (.cells #[.int .i64 x, .slice a n cap] 26) := ⟨_, rfl⟩
  rw [← hwb] at hb0 hG
  obtain ⟨r, hr⟩ : ∃ r, r = M.isGr x l := ⟨_, rfl⟩
  have HS : Hid (Calls Tryz.prog 58 #[.agg #[.int .i64 x, .slice a n cap]] wb fun e w' => e = .returned (.bool r) ∧ Below wb.heap.size wb w') := by rw [hr]; exact sIsEventGraph x a n cap l wb (h.below hb0)
  have HG := Lib.hid hG
  have HB0 := Lib.hid hb0
  have HRr := Lib.hid hr
  clear h hG hb0 hr
  cases r with
  | false =>
    have HR : Hid (M.lvCode x l = 1) := by show _ = _; unfold M.lvCode; rw [← HRr.out]; rfl
    go_enter Tryz.func48, Tryz.ntmps48
    go_wp2_with fail
    rw [← hwb]
    clear hwb
    refine (HS.out).mono ?_
    rintro e w1 ⟨rfl, hb1⟩
    have HB1 := Lib.hid (HB0.out.trans (hb1.mono HB0.out.size))
    obtain ⟨g0, g1⟩ := HG.out.below hb1
    clear hb1
    go_wp2
    go_ret
    exact ⟨by rw [HR.out]; rfl, HB1.out⟩
  | true =>
    obtain ⟨N, hN, n1, n2⟩ := gr_nat HRr.out.symm
    replace hN := hN.symm
    subst hN
    obtain ⟨q, hq⟩ : ∃ q, q = M.deadQ l N := ⟨_, rfl⟩
    have HR : Hid (M.lvCode (N : Int) l = if q.length = 0 then 0 else 5) := by show _ = _; unfold M.lvCode; rw [← HRr.out, hq]; rfl
    have HC : Hid (∀ w, Pls w a n l → Calls Tryz.prog 98 #[.agg #[.int .i64 N, .slice a n cap]] w fun e w' => ∃ b m c, e = .returned (.slice b m c) ∧ Own w' w.heap.size (.slice b m c) q ∧ Below w.heap.size w w') := fun w h => by rw [hq]; exact sDead N a n cap l w h HRr.out.symm
    clear hq
    go_enter Tryz.func48, Tryz.ntmps48
    go_wp2_with fail
    rw [← hwb]
    clear hwb
    refine (HS.out).mono ?_
    rintro e w1 ⟨rfl, hb1⟩
    have HB1 := Lib.hid (HB0.out.trans (hb1.mono HB0.out.size))
    obtain ⟨g0, g1⟩ := HG.out.below hb1
    clear hb1
    go_wp2_with fail
    refine (HC.out w1 (HI.out.below HB1.out)).mono ?_
    rintro e w2 ⟨b2, m2, c2, rfl, ho, hb2⟩
    have HLn := Lib.hid ho.len
    have HB2 := Lib.hid (HB1.out.trans (hb2.mono HB1.out.size))
    clear g0 g1 ho hb2
    by_cases h0 : m2 = 0
    · subst h0
      have HR2 : Hid (M.lvCode (N : Int) l = 0) := by show _ = _; rw [HR.out]; exact if_pos HLn.out.symm
      go_wp2
      go_ret
      exact ⟨by rw [HR2.out]; rfl, HB2.out⟩
    · have HR2 : Hid (M.lvCode (N : Int) l = 5) := by show _ = _; rw [HR.out]; exact if_neg (by rw [← HLn.out]; exact h0)
      have hm : 0 < (m2 : Int) := by omega
      go_wp2
      go_ret
      exact ⟨by rw [HR2.out]; rfl, HB2.out⟩
end V
end Go.Proofs.YtlofnadpgnbmdaaGreat

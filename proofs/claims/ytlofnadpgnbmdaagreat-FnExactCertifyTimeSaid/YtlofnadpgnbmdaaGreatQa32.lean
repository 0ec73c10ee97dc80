/- Texts laid together: Rce. -/
import Derived.Test.YtlofnadpgnbmdaaGreatQa31
import Derived.Test.YtlofnadpgnbmdaaGreatQa21
import Derived.Test.YtlofnadpgnbmdaaGreatQa12
import Derived.Test.YtlofnadpgnbmdaaGreatQa20
set_option linter.unusedSimpArgs false
set_option linter.unusedVariables false
set_option linter.unusedSectionVars false
namespace Go.Proofs.YtlofnadpgnbmdaaGreat
namespace M
def cloRes (x : Int) (l : List Pc) (m : Int) : List (List Int) × Int := if inCode (lvCode x l) (inB m 1 5) = 0 then (closM l x.toNat m, 0) else ([], inCode (lvCode x l) (inB m 1 5))
def lvoRes (x : Int) (l : List Pc) (b : Bool) : List Int × Int := if inCode (lvCode x l) b = 0 then (ordL (wtF fOne l) x.toNat x.toNat, 0) else ([], inCode (lvCode x l) b)
theorem ord_code (x : Int) (l : List Pc) : ordRes x l = if lvCode x l = 0 then (ordL (wtF fOne l) x.toNat x.toNat, 0) else ([], lvCode x l) := by
  by_cases h : lvCode x l = 0
  · rw [if_pos h]
    obtain ⟨h1, h2⟩ := lv_zero h
    unfold ordRes
    rw [if_pos h1, if_pos h2]
  · rw [if_neg h]; exact lv_none h
theorem inCode_t {c : Int} {b : Bool} (h : inCode c b = 0) : c = 0 ∧ b = true := by
  unfold inCode at h
  split at h
  · omega
  · next q =>
    subst h
    cases b with
    | true => exact ⟨rfl, rfl⟩
    | false => exact absurd ⟨by omega, rfl⟩ q
theorem inCode_true (c : Int) : inCode c true = c := by unfold inCode; rw [if_neg (fun h => by cases h.2)]
theorem gr_plOk {N : Nat} {l : List Pc} (h : isGr (N : Int) l = true) : plOk l N := fun p hp => by
  unfold isGr at h
  simp only [Bool.and_eq_true, List.all_eq_true] at h
  have := h.2.2 p hp
  unfold plW inB at this
  simp only [Bool.and_eq_true, decide_eq_true_eq] at this
  refine ⟨⟨by omega, by omega⟩, ⟨by omega, by omega⟩, by omega, by omega⟩
end M
namespace V
set_option maxRecDepth 100000
open Go.RowKit
set_option maxRecDepth 100000 in
set_option maxHeartbeats 2000000 in
theorem liveOrder (x : Int) (a : Option Addr) (n cap : Nat) (l : List M.Pc) (b : Bool) (w : World) (h : Pls w a n l) :
    Calls Tryz.prog 45 #[.agg #[.int .i64 x, .slice a n cap], .bool b] w (VRes (M.lvoRes x l b) w) := by
  have hb0 := b_alloc w (.cells #[.int .i64 x, .slice a n cap] 26)
  have hG := gBox_new w x a n cap 26
  obtain ⟨wb, hwb⟩ : ∃ z, z = w.alloc (.cells #[.int .i64 x, .slice a n cap] 26) := ⟨_, rfl⟩
  rw [← hwb] at hb0 hG
  obtain ⟨c, hc⟩ : ∃ c, c = M.lvCode x l := ⟨_, rfl⟩
  obtain ⟨L, hL⟩ : ∃ L, L = M.ordL (M.wtF M.fOne l) x.toNat x.toNat := ⟨_, rfl⟩
  have HC : Hid (Calls Tryz.prog 95 #[.agg #[.int .i64 x, .slice a n cap]] wb (VRes (if c = 0 then (L, 0) else ([], c)) wb)) := by
    have := firingOrderX x a n cap l wb (h.below hb0)
    rw [M.ord_code, ← hc, ← hL] at this
    exact this
  have HR : Hid (M.lvoRes x l b = if M.inCode c b = 0 then (L, 0) else ([], M.inCode c b)) := by show _ = _; unfold M.lvoRes; rw [← hc, ← hL]
  have HB0 := Lib.hid hb0
  obtain ⟨g0, g1⟩ := hG
  clear h hb0 hc hL
  by_cases h0 : c = 0
  · subst h0
    rw [if_pos rfl] at HC
    cases b with
    | true =>
      have HR2 : Hid (M.lvoRes x l true = (L, 0)) := HR.out.trans (by rfl)
      go_enter Tryz.func45, Tryz.ntmps45
      go_wp2_with fail
      rw [← hwb]
      clear hwb
      refine HC.out.mono ?_
      rintro e w2 ⟨b2, n2, c2, rfl, ho, hb2⟩
      have HO2 := Lib.hid (ho.mono HB0.out.size)
      have HB2 := Lib.hid (HB0.out.trans (hb2.mono HB0.out.size))
      clear ho hb2 g0 g1
      go_wp2
      go_ret2
      rw [HR2.out]
      exact ⟨_, _, _, rfl, HO2.out, HB2.out⟩
    | false =>
      have HR2 : Hid (M.lvoRes x l false = ([], 2)) := HR.out.trans (by rfl)
      go_enter Tryz.func45, Tryz.ntmps45
      go_wp2_with fail
      rw [← hwb]
      clear hwb
      refine HC.out.mono ?_
      rintro e w2 ⟨b2, n2, c2, rfl, ho, hb2⟩
      have HB2 := Lib.hid (HB0.out.trans (hb2.mono HB0.out.size))
      clear ho hb2 g0 g1
      go_wp2
      go_ret2
      exact VRes.nil HR2.out HB2.out
  · rw [if_neg h0] at HC
    by_cases h1 : c = 1
    · subst h1
      have HR2 : Hid (M.lvoRes x l b = ([], 1)) := HR.out.trans (by cases b <;> rfl)
      go_enter Tryz.func45, Tryz.ntmps45
      go_wp2_with fail
      rw [← hwb]
      clear hwb
      refine HC.out.mono ?_
      rintro e w2 ⟨b2, n2, c2, rfl, ho, hb2⟩
      have HO2 := Lib.hid (ho.mono HB0.out.size)
      have HB2 := Lib.hid (HB0.out.trans (hb2.mono HB0.out.size))
      clear ho hb2 g0 g1
      go_wp2
      go_ret2
      rw [HR2.out]
      exact ⟨_, _, _, rfl, HO2.out, HB2.out⟩
    · have h1' : (c != 1) = true := by simpa using h1
      cases b with
      | true =>
        have HR2 : Hid (M.lvoRes x l true = ([], c)) := HR.out.trans (by rw [M.inCode_true]; exact if_neg h0)
        clear h0 h1
        go_enter Tryz.func45, Tryz.ntmps45
        go_wp2_with fail
        rw [← hwb]
        clear hwb
        refine HC.out.mono ?_
        rintro e w2 ⟨b2, n2, c2, rfl, ho, hb2⟩
        have HO2 := Lib.hid (ho.mono HB0.out.size)
        have HB2 := Lib.hid (HB0.out.trans (hb2.mono HB0.out.size))
        clear ho hb2 g0 g1
        go_wp2
        go_ret2
        rw [HR2.out]
        exact ⟨_, _, _, rfl, HO2.out, HB2.out⟩
      | false =>
        have HR2 : Hid (M.lvoRes x l false = ([], 2)) := HR.out.trans (by
          have e : M.inCode c false = 2 := if_pos ⟨h1, rfl⟩
          rw [e]; rfl)
        clear h0 h1
        go_enter Tryz.func45, Tryz.ntmps45
        go_wp2_with fail
        rw [← hwb]
        clear hwb
        refine HC.out.mono ?_
        rintro e w2 ⟨b2, n2, c2, rfl, ho, hb2⟩
        have HB2 := Lib.hid (HB0.out.trans (hb2.mono HB0.out.size))
        clear ho hb2 g0 g1
        go_wp2
        go_ret2
        exact VRes.nil HR2.out HB2.out
set_option maxRecDepth 100000 in
set_option maxHeartbeats 2000000 in
theorem sCode (x : Int) (a : Option Addr) (n cap : Nat) (l : List M.Pc) (b : Bool) (w : World) (h : Pls w a n l) :
    Calls Tryz.prog 54 #[.agg #[.int .i64 x, .slice a n cap], .bool b] w fun e w' => e = .returned (.int .i64 (M.inCode (M.lvCode x l) b)) ∧ Below w.heap.size w w' := by
  have hb0 := b_alloc w (.cells #[.int .i64 x, .slice a n cap] 26)
  have hG := gBox_new w x a n cap 26
  obtain ⟨wb, hwb⟩ : ∃ z, z = w.alloc (.cells #[.int .i64 x, .slice a n cap] 26) := ⟨_, rfl⟩
  rw [← hwb] at hb0 hG
  obtain ⟨c, hc⟩ : ∃ c, c = M.lvCode x l := ⟨_, rfl⟩
  have HC : Hid (Calls Tryz.prog 48 #[.agg #[.int .i64 x, .slice a n cap]] wb fun e w' => e = .returned (.int .i64 c) ∧ Below wb.heap.size wb w') := by
    rw [hc]; exact sLive x a n cap l wb (h.below hb0)
  rw [← hc]
  have HB0 := Lib.hid hb0
  obtain ⟨g0, g1⟩ := hG
  clear h hb0 hc
  by_cases h1 : c = 1
  · subst h1
    have HR : Hid (M.inCode 1 b = 1) := by show _ = _; cases b <;> rfl
    go_enter Tryz.func54, Tryz.ntmps54
    go_wp2_with fail
    rw [← hwb]
    clear hwb
    refine HC.out.mono ?_
    rintro e w2 ⟨rfl, hb2⟩
    have HB2 := Lib.hid (HB0.out.trans (hb2.mono HB0.out.size))
    clear hb2 g0 g1
    go_wp2
    go_ret
    exact ⟨by rw [HR.out]; rfl, HB2.out⟩
  · have h1' : (c != 1) = true := by simpa using h1
    cases b with
    | true =>
      have HR : Hid (M.inCode c true = c) := M.inCode_true c
      clear h1
      go_enter Tryz.func54, Tryz.ntmps54
      go_wp2_with fail
      rw [← hwb]
      clear hwb
      refine HC.out.mono ?_
      rintro e w2 ⟨rfl, hb2⟩
      have HB2 := Lib.hid (HB0.out.trans (hb2.mono HB0.out.size))
      clear hb2 g0 g1
      go_wp2
      go_ret
      exact ⟨by rw [HR.out]; rfl, HB2.out⟩
    | false =>
      have HR : Hid (M.inCode c false = 2) := if_pos ⟨h1, rfl⟩
      clear h1
      go_enter Tryz.func54, Tryz.ntmps54
      go_wp2_with fail
      rw [← hwb]
      clear hwb
      refine HC.out.mono ?_
      rintro e w2 ⟨rfl, hb2⟩
      have HB2 := Lib.hid (HB0.out.trans (hb2.mono HB0.out.size))
      clear hb2 g0 g1
      go_wp2
      go_ret
      exact ⟨by rw [HR.out]; rfl, HB2.out⟩
set_option maxRecDepth 100000 in
set_option maxHeartbeats 2000000 in
theorem closedMatrixM (N : Nat) (a : Option Addr) (n cap : Nat) (l : List M.Pc) (m : Int) (w : World) (h : Pls w a n l) (hg : M.isGr (N : Int) l = true) (hl : M.liveB (M.wtF M.fOne l) N = true) :
    Calls Tryz.prog 47 #[.agg #[.int .i64 N, .slice a n cap], .int .i64 m] w (MPost N (M.closM l N m) w) := by
  have HI := Lib.hid h
  have HGr := Lib.hid hg
  obtain ⟨n1, n2, -⟩ := gr_N hg
  have hok := M.gr_plOk hg
  have HSq0 : Hid (M.sqB (M.wtM (M.fDel 0) N l) = true) := M.del_sq hok 0 n1 n2
  have HSqm : Hid (M.sqB (M.wtM (M.fDel m) N l) = true) := M.del_sq hok m n1 n2
  have HNp : Hid (M.noPos (M.ent (M.wtM (M.fDel 0) N l)) N = true) := by show _ = _; rw [M.wt_noPos]; exact M.del_noPos hok n2 hl
  have HSt : Hid (M.starL (M.wtM (M.fDel 0) N l) N = (M.starM (M.wtM (M.fDel 0) N l) N, true)) := if_pos HNp.out
  have hb0 := b_alloc w (.cells #[.int .i64 N, .slice a n cap] 26)
  have hG := gBox_new w N a n cap 26
  obtain ⟨wb, hwb⟩ : ∃ z, z = w.alloc (.cells #[.int .i64 N, .slice a n cap] 26) := ⟨_, rfl⟩
  rw [← hwb] at hb0 hG
  have HG := Lib.hid hG
  have HB0 := Lib.hid hb0
  obtain ⟨g0, g1⟩ := hG
  clear h hb0 hok hg hl
  go_enter Tryz.func47, Tryz.ntmps47
  go_wp2_with fail
  rw [← hwb]
  clear hwb
  refine (delayMatrixM N a n cap l 0 wb (HI.out.below HB0.out) HGr.out).mono ?_
  rintro e w1 ⟨b1, c1, rfl, ho, hb⟩
  have HQ := Lib.hid (sq_of ho.mat HSq0.out)
  have HB1 := Lib.hid (HB0.out.trans (hb.mono HB0.out.size))
  have HG1 := Lib.hid (HG.out.below hb)
  clear ho hb g0 g1
  go_wp2_with fail
  refine (starOf _ _ _ _ _ HQ.out).mono ?_
  rintro e w2 ⟨b2, m2, c2, rfl, ho, hb⟩
  rw [HSt.out] at ho
  obtain rfl : N = m2 := (ho.len.trans (M.mk_length N N (M.starF (M.ent (M.wtM (M.fDel 0) N l)) N))).symm
  have HO2 := Lib.hid ho
  have HB2 := Lib.hid (HB1.out.trans (hb.mono HB1.out.size))
  have HG2 := Lib.hid (HG1.out.below hb)
  obtain ⟨g0, g1⟩ := HG2.out
  clear ho hb
  go_wp2_with fail
  refine (delayMatrixM N a n cap l m w2 (HI.out.below HB2.out) HGr.out).mono ?_
  rintro e w3 ⟨b3, c3, rfl, ho, hb⟩
  have HQ3 := Lib.hid (sq_of ho.mat HSqm.out)
  have HB3 := Lib.hid (HB2.out.trans (hb.mono HB2.out.size))
  have HM3 := Lib.hid (HO2.out.below hb).mat
  clear ho hb g0 g1
  go_wp2_with fail
  refine (maxPlus _).mono ?_
  rintro e w4 ⟨rfl, hb⟩
  have HB4 := Lib.hid (HB3.out.trans (hb.mono HB3.out.size))
  have HQ4 := Lib.hid (HQ3.out.1.below hb)
  have HM4 := Lib.hid (HM3.out.below hb)
  clear hb
  go_wp2_with fail
  refine (multipliedB _ N _ N _ _ _ N _ _ HM4.out HQ4.out (rect_mk _ _ _) HQ3.out.2.1 ?_ ?_ n1 n2 n1 n2 n1 n2).mono ?_
  · intro i k hi hk
    rw [show M.starM (M.wtM (M.fDel 0) N l) N = M.mk N N (M.starF (M.ent (M.wtM (M.fDel 0) N l)) N) from rfl, M.ent_mk _ _ _ _ _ hi hk]
    exact M.big_sm (M.star_sm n2 HQ.out.2.2.1 HNp.out hi hk) (by omega)
  · intro k j hk hj
    exact M.big_sm (HQ3.out.2.2.1 k j hk hj) (by omega)
  rintro e w5 ⟨b5, c5, rfl, ho, hb⟩
  have HO5 := Lib.hid (ho.mono HB4.out.size)
  have HB5 := Lib.hid (HB4.out.trans (hb.mono HB4.out.size))
  clear ho hb
  go_wp2
  go_ret
  exact ⟨_, _, rfl, HO5.out, HB5.out⟩
set_option maxRecDepth 100000 in
set_option maxHeartbeats 2000000 in
theorem sClosed (N : Nat) (a : Option Addr) (n cap : Nat) (l : List M.Pc) (m : Int) (w : World) (h : Pls w a n l) (hg : M.isGr (N : Int) l = true) (hl : M.liveB (M.wtF M.fOne l) N = true) :
    Calls Tryz.prog 50 #[.agg #[.int .i64 N, .slice a n cap], .int .i64 m] w (MPost N (M.closM l N m) w) := by
  have HI := Lib.hid h
  have HGr := Lib.hid hg
  obtain ⟨n1, n2, -⟩ := gr_N hg
  have hok := M.gr_plOk hg
  have HSq0 : Hid (M.sqB (M.wtM (M.fDel 0) N l) = true) := M.del_sq hok 0 n1 n2
  have HSqm : Hid (M.sqB (M.wtM (M.fDel m) N l) = true) := M.del_sq hok m n1 n2
  have HNp : Hid (M.noPos (M.ent (M.wtM (M.fDel 0) N l)) N = true) := by show _ = _; rw [M.wt_noPos]; exact M.del_noPos hok n2 hl
  have hb0 := b_alloc w (.cells #[.int .i64 N, .slice a n cap] 26)
  have hG := gBox_new w N a n cap 26
  obtain ⟨wb, hwb⟩ : ∃ z, z = w.alloc (.cells #[.int .i64 N, .slice a n cap] 26) := ⟨_, rfl⟩
  rw [← hwb] at hb0 hG
  have HG := Lib.hid hG
  have HB0 := Lib.hid hb0
  obtain ⟨g0, g1⟩ := hG
  clear h hb0 hok hg hl
  go_enter Tryz.func50, Tryz.ntmps50
  go_wp2_with fail
  rw [← hwb]
  clear hwb
  refine (sDelays N a n cap l 0 wb (HI.out.below HB0.out) HGr.out).mono ?_
  rintro e w1 ⟨b1, c1, rfl, ho, hb⟩
  have HQ := Lib.hid (sq_of ho.mat HSq0.out)
  have HB1 := Lib.hid (HB0.out.trans (hb.mono HB0.out.size))
  have HG1 := Lib.hid (HG.out.below hb)
  clear ho hb g0 g1
  go_wp2_with fail
  refine (sStar _ _ _ _ _ HQ.out).mono ?_
  rintro e w2 ⟨b2, c2, rfl, ho, hb⟩
  rw [M.bm_star n2 HQ.out.2.2.1 HNp.out] at ho
  have HO2 := Lib.hid ho
  have HB2 := Lib.hid (HB1.out.trans (hb.mono HB1.out.size))
  have HG2 := Lib.hid (HG1.out.below hb)
  obtain ⟨g0, g1⟩ := HG2.out
  clear ho hb
  go_wp2_with fail
  refine (sDelays N a n cap l m w2 (HI.out.below HB2.out) HGr.out).mono ?_
  rintro e w3 ⟨b3, c3, rfl, ho, hb⟩
  have HQ3 := Lib.hid (sq_of ho.mat HSqm.out)
  have HB3 := Lib.hid (HB2.out.trans (hb.mono HB2.out.size))
  have HM3 := Lib.hid (HO2.out.below hb).mat
  clear ho hb g0 g1
  go_wp2_with fail
  refine (sMultiplyB _ N _ N _ _ _ N _ _ HM3.out HQ3.out.1 (rect_mk _ _ _) HQ3.out.2.1 ?_ ?_ n1 n2 n1 n2 n1 n2).mono ?_
  · intro i k hi hk
    rw [show M.starM (M.wtM (M.fDel 0) N l) N = M.mk N N (M.starF (M.ent (M.wtM (M.fDel 0) N l)) N) from rfl, M.ent_mk _ _ _ _ _ hi hk]
    exact M.big_sm (M.star_sm n2 HQ.out.2.2.1 HNp.out hi hk) (by omega)
  · intro k j hk hj
    exact M.big_sm (HQ3.out.2.2.1 k j hk hj) (by omega)
  rintro e w5 ⟨b5, c5, rfl, ho, hb⟩
  have HO5 := Lib.hid (ho.mono HB3.out.size)
  have HB5 := Lib.hid (HB3.out.trans (hb.mono HB3.out.size))
  clear ho hb
  go_wp2
  go_ret
  exact ⟨_, _, rfl, HO5.out, HB5.out⟩
end V
end Go.Proofs.YtlofnadpgnbmdaaGreat

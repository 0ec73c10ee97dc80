/- Texts laid together: Rce. -/
import Derived.Test.YtlofnadpgnbmdaaQa31
import Derived.Test.YtlofnadpgnbmdaaQa21
import Derived.Test.YtlofnadpgnbmdaaQa12
import Derived.Test.YtlofnadpgnbmdaaQa20
set_option linter.unusedSimpArgs false
set_option linter.unusedVariables false
set_option linter.unusedSectionVars false
namespace Go.Proofs.Ytlofnadpgnbmdaa
namespace M
def cloRes (x : Int) (l : List Pc) (m : Int) : List (List Int) × Int := if inCode (lvCode x l) (inB m 1 5) = 0 then (closM l x.toNat m, 0) else ([], inCode (lvCode x l) (inB m 1 5))
def lvoRes (x : Int) (l : List Pc) (b : Bool) : List Int × Int := if inCode (lvCode x l) b = 0 then (ordL (wtF fOne l) x.toNat x.toNat, 0) else ([], inCode (lvCode x l) b)
theorem ord_code (x : Int) (l : List Pc) : ordRes x l = if lvCode x l = 0 then (ordL (wtF fOne l) x.toNat x.toNat, 0) else ([], lvCode x l) := by
  by_cases h : lvCode x l = 0
  · rw [if_pos h]
    obtain ⟨h1, h2⟩ := lv_zero h
    unfold ordRes
    rw [if_pos h1, if_pos h2]
  · rw [if_neg h]; exact lv_none h
theorem inCode_t {c : Int} {b : Bool} (h : inCode c b = 0) : c = 0 ∧ b = true := by
  unfold inCode at h
  split at h
  · omega
  · next q =>
    subst h
    cases b with
    | true => exact ⟨rfl, rfl⟩
    | false => exact absurd ⟨by omega, rfl⟩ q
theorem inCode_true (c : Int) : inCode c true = c := by unfold inCode; rw [if_neg (fun h => by cases h.2)]
theorem gr_plOk {N : Nat} {l : List Pc} (h : isGr (N : Int) l = true) : plOk l N := fun p hp => by
  unfold isGr at h
  simp only [Bool.and_eq_true, List.all_eq_true] at h
  have := h.2.2 p hp
  unfold plW inB at this
  simp only [Bool.and_eq_true, decide_eq_true_eq] at this
  refine ⟨⟨by omega, by omega⟩, ⟨by omega, by omega⟩, by omega, by omega⟩
end M
namespace V
set_option maxRecDepth 100000
open Go.RowKit
set_option maxRecDepth 100000 in
set_option maxHeartbeats 2000000 in
theorem liveOrder (x : Int) (a : Option Addr) (n cap : Nat) (l : List M.Pc) (b : Bool) (w : World) (h : Pls w a n l) :
    Calls Try.prog 62 #[.agg #[.int .i64 x, .slice a n cap], .bool b] w (VRes (M.lvoRes x l b) w) := by
  have hb0 := b_alloc w (.cells #[.int .i64 x, .slice a n cap] 26)
  have hG := gBox_new w x a n cap 26
  obtain ⟨wb, hwb⟩ : ∃ z, z = w.alloc (.cells #[.int .i64 x, .slice a n cap] 26) := ⟨_, rfl⟩
  rw [← hwb] at hb0 hG
  obtain ⟨c, hc⟩ : ∃ c, c = M.lvCode x l := ⟨_, rfl⟩
  obtain ⟨L, hL⟩ : ∃ L, L = M.ordL (M.wtF M.fOne l) x.toNat x.toNat := ⟨_, rfl⟩
  have HC : Hid (Calls Try.prog 115 #[.agg #[.int .i64 x, .slice a n cap]] wb (VRes (if c = 0 then (L, 0) else ([], c)) wb)) := by
    have := firingOrderX x a n cap l wb (h.below hb0)
    rw [M.ord_code, ← hc, ← hL] at this
    exact this
  have HR : Hid (M.lvoRes x l b = if M.inCode c b = 0 then (L, 0) else ([], M.inCode c b)) := by show _ = _; unfold M.lvoRes; rw [← hc, ← hL]
  have HB0 := Lib.hid hb0
  obtain ⟨g0, g1⟩ := hG
  clear h hb0 hc hL
  by_cases h0 : c = 0
  · subst h0
    rw [if_pos rfl] at HC
    cases b with
    | true =>
      have HR2 : Hid (M.lvoRes x l true = (L, 0)) := HR.out.trans (by rfl)
      go_enter Try.func62, Try.ntmps62
      go_wp2_with fail
      rw [← hwb]
      clear hwb
      refine HC.out.mono ?_
      rintro e w2 ⟨b2, n2, c2, rfl, ho, hb2⟩
      have HO2 := Lib.hid (ho.mono HB0.out.size)
      have HB2 := Lib.hid (HB0.out.trans (hb2.mono HB0.out.size))
      clear ho hb2 g0 g1
      go_wp2
      go_ret2
      rw [HR2.out]
      exact ⟨_, _, _, rfl, HO2.out, HB2.out⟩
    | false =>
      have HR2 : Hid (M.lvoRes x l false = ([], 2)) := HR.out.trans (by rfl)
      go_enter Try.func62, Try.ntmps62
      go_wp2_with fail
      rw [← hwb]
      clear hwb
      refine HC.out.mono ?_
      rintro e w2 ⟨b2, n2, c2, rfl, ho, hb2⟩
      have HB2 := Lib.hid (HB0.out.trans (hb2.mono HB0.out.size))
      clear ho hb2 g0 g1
      go_wp2
      go_ret2
      exact VRes.nil HR2.out HB2.out
  · rw [if_neg h0] at HC
    by_cases h1 : c = 1
    · subst h1
      have HR2 : Hid (M.lvoRes x l b = ([], 1)) := HR.out.trans (by cases b <;> rfl)
      go_enter Try.func62, Try.ntmps62
      go_wp2_with fail
      rw [← hwb]
      clear hwb
      refine HC.out.mono ?_
      rintro e w2 ⟨b2, n2, c2, rfl, ho, hb2⟩
      have HO2 := Lib.hid (ho.mono HB0.out.size)
      have HB2 := Lib.hid (HB0.out.trans (hb2.mono HB0.out.size))
      clear ho hb2 g0 g1
      go_wp2
      go_ret2
      rw [HR2.out]
      exact ⟨_, _, _, rfl, HO2.out, HB2.out⟩
    · have h1' : (c != 1) = true := by simpa using h1
      cases b with
      | true =>
        have HR2 : Hid (M.lvoRes x l true = ([], c)) := HR.out.trans (by rw [M.inCode_true]; exact if_neg h0)
        clear h0 h1
        go_enter Try.func62, Try.ntmps62
        go_wp2_with fail
        rw [← hwb]
        clear hwb
        refine HC.out.mono ?_
        rintro e w2 ⟨b2, n2, c2, rfl, ho, hb2⟩
        have HO2 := Lib.hid (ho.mono HB0.out.size)
        have HB2 := Lib.hid (HB0.out.trans (hb2.mono HB0.out.size))
        clear ho hb2 g0 g1
        go_wp2
        go_ret2
        rw [HR2.out]
        exact ⟨_, _, _, rfl, HO2.out, HB2.out⟩
      | false =>
        have HR2 : Hid (M.lvoRes x l false = ([], 2)) := HR.out.trans (by
          have e : M.inCode c false = 2 := if_pos ⟨h1, rfl⟩
          rw [e]; rfl)
        clear h0 h1
        go_enter Try.func62, Try.ntmps62
        go_wp2_with fail
        rw [← hwb]
        clear hwb
        refine HC.out.mono ?_
        rintro e w2 ⟨b2, n2, c2, rfl, ho, hb2⟩
        have HB2 := Lib.hid (HB0.out.trans (hb2.mono HB0.out.size))
        clear ho hb2 g0 g1
        go_wp2
        go_ret2
        exact VRes.nil HR2.out HB2.out
set_option maxRecDepth 100000 in
set_option maxHeartbeats 2000000 in
theorem sCode (x : Int) (a : Option Addr) (n cap : Nat) (l : List M.Pc) (b : Bool) (w : World) (h : Pls w a n l) :
    Calls Try.prog 80 #[.agg #[.int .i64 x, .slice a n cap], .bool b] w fun e w' => e = .returned (.int .i64 (M.inCode (M.lvCode x l) b)) ∧ Below w.heap.size w w' := by
  have hb0 := b_alloc w (.cells #[.int .i64 x, .slice a n cap] 26)
  have hG := gBox_new w x a n cap 26
  obtain ⟨wb, hwb⟩ : ∃ z, z = w.alloc (.cells #[.int .i64 x, .slice a n cap] 26) := ⟨_, rfl⟩
  rw [← hwb] at hb0 hG
  obtain ⟨c, hc⟩ : ∃ c, c = M.lvCode x l := ⟨_, rfl⟩
  have HC : Hid (Calls Try.prog 90 #[.agg #[.int .i64 x, .slice a n cap]] wb fun e w' => e = .returned (.int .i64 c) ∧ Below wb.heap.size wb w') := by
    rw [hc]; exact sLive x a n cap l wb (h.below hb0)
  rw [← hc]
  have HB0 := Lib.hid hb0
  obtain ⟨g0, g1⟩ := hG
  clear h hb0 hc
  by_cases h1 : c = 1
  · subst h1
    have HR : Hid (M.inCode 1 b = 1) := by show _ = _; cases b <;> rfl
    go_enter Try.func80, Try.ntmps80
    go_wp2_with fail
    rw [← hwb]
    clear hwb
    refine HC.out.mono ?_
    rintro e w2 ⟨rfl, hb2⟩
    have HB2 := Lib.hid (HB0.out.trans (hb2.mono HB0.out.size))
    clear hb2 g0 g1
    go_wp2
    go_ret
    exact ⟨by rw [HR.out]; rfl, HB2.out⟩
  · have h1' : (c != 1) = true := by simpa using h1
    cases b with
    | true =>
      have HR : Hid (M.inCode c true = c) := M.inCode_true c
      clear h1
      go_enter Try.func80, Try.ntmps80
      go_wp2_with fail
      rw [← hwb]
      clear hwb
      refine HC.out.mono ?_
      rintro e w2 ⟨rfl, hb2⟩
      have HB2 := Lib.hid (HB0.out.trans (hb2.mono HB0.out.size))
      clear hb2 g0 g1
      go_wp2
      go_ret
      exact ⟨by rw [HR.out]; rfl, HB2.out⟩
    | false =>
      have HR : Hid (M.inCode c false = 2) := if_pos ⟨h1, rfl⟩
      clear h1
      go_enter Try.func80, Try.ntmps80
      go_wp2_with fail
      rw [← hwb]
      clear hwb
      refine HC.out.mono ?_
      rintro e w2 ⟨rfl, hb2⟩
      have HB2 := Lib.hid (HB0.out.trans (hb2.mono HB0.out.size))
      clear hb2 g0 g1
      go_wp2
      go_ret
      exact ⟨by rw [HR.out]; rfl, HB2.out⟩
end V
end Go.Proofs.Ytlofnadpgnbmdaa

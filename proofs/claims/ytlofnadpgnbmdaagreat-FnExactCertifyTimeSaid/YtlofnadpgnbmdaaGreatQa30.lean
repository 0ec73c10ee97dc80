/- Texts laid together: Lvh. -/
import Derived.Test.YtlofnadpgnbmdaaGreatQa29
import Derived.Test.YtlofnadpgnbmdaaGreatQa28
import Derived.Test.YtlofnadpgnbmdaaGreatQa9
set_option linter.unusedSimpArgs false
set_option linter.unusedVariables false
set_option linter.unusedSectionVars false
namespace Go.Proofs.YtlofnadpgnbmdaaGreat
namespace M
def ordRes (x : Int) (l : List Pc) : List Int × Int := if isGr x l then (if liveB (wtF fOne l) x.toNat then (ordL (wtF fOne l) x.toNat x.toNat, 0) else ([], 5)) else ([], 1)
theorem ordRes_len (x : Int) (l : List Pc) : (ordRes x l).1.length ≤ 30 := by
  unfold ordRes
  split
  · next h =>
    split
    · have hx : x.toNat ≤ 10 := by
        unfold isGr inB at h
        simp only [Bool.and_eq_true, decide_eq_true_eq] at h
        omega
      have := ord_len (wtF fOne l) x.toNat x.toNat
      show (ordL (wtF fOne l) x.toNat x.toNat).length ≤ 30
      omega
    · simp
  · simp
/-- Whether a node can be next, as far as the first nodes tell. -/
def rdyK (A : Nat → Nat → Int) (o : List Int) (e k : Nat) : Bool := !hasB o (e : Int) && (List.range k).all fun k => decide (A e k = -1000000000000000) || hasB o (k : Int)
theorem rdyK_next (A : Nat → Nat → Int) (o : List Int) (e k : Nat) : rdyK A o e (k + 1) = (rdyK A o e k && (decide (A e k = -1000000000000000) || hasB o (k : Int))) := by
  unfold rdyK
  rw [List.range_succ, List.all_append, Bool.and_assoc]
  simp
theorem rdyK_zero (A : Nat → Nat → Int) (o : List Int) (e : Nat) : rdyK A o e 0 = !hasB o (e : Int) := by unfold rdyK; simp
theorem lv_none {x : Int} {l : List Pc} (h : lvCode x l ≠ 0) : ordRes x l = ([], lvCode x l) := by
  unfold lvCode at h ⊢
  unfold ordRes
  split
  · next hg =>
    rw [if_pos hg] at h
    have hx : x.toNat ≤ 10 := by
      unfold isGr inB at hg
      simp only [Bool.and_eq_true, decide_eq_true_eq] at hg
      omega
    have hd := dead_is (l := l) hx
    by_cases q : (deadQ l x.toNat).length = 0
    · rw [if_pos q] at h; exact absurd rfl h
    · rw [if_neg q]
      rw [decide_eq_false q] at hd
      rw [← hd]; rfl
  · rfl
theorem lv_zero {x : Int} {l : List Pc} (h : lvCode x l = 0) : isGr x l = true ∧ liveB (wtF fOne l) x.toNat = true := by
  unfold lvCode at h
  split at h
  · next hg =>
    have hx : x.toNat ≤ 10 := by
      unfold isGr inB at hg
      simp only [Bool.and_eq_true, decide_eq_true_eq] at hg
      omega
    have hd := dead_is (l := l) hx
    by_cases q : (deadQ l x.toNat).length = 0
    · rw [decide_eq_true q] at hd
      exact ⟨hg, hd.symm⟩
    · rw [if_neg q] at h; omega
  · omega
theorem rdyK_end (A : Nat → Nat → Int) (n : Nat) (o : List Int) (e : Nat) : rdyK A o e n = rdy A n o e := rfl
end M
namespace V
set_option maxRecDepth 100000
open Go.RowKit
def sLen : Value → Nat
  | .slice _ n _ => n
  | _ => 0
set_option maxRecDepth 100000 in
set_option maxHeartbeats 2000000 in
theorem firingOrderX (x : Int) (a : Option Addr) (n cap : Nat) (l : List M.Pc) (w : World) (h : Pls w a n l) :
    Calls Tryz.prog 95 #[.agg #[.int .i64 x, .slice a n cap]] w (VRes (M.ordRes x l) w) := by
  have HI := Lib.hid h
  have hb0 := b_alloc w (.cells #[.int .i64 x, .slice a n cap] 26)
  have hG := gBox_new w x a n cap 26
  obtain ⟨wb, hwb⟩ : ∃ z, z = w.alloc (.cells #[.int .i64 x, .slice a n cap] 26) := ⟨_, rfl⟩
  rw [← hwb] at hb0 hG
  obtain ⟨r, hr⟩ : ∃ r, r = M.isGr x l := ⟨_, rfl⟩
  have HS : Hid (Calls Tryz.prog 56 #[.agg #[.int .i64 x, .slice a n cap]] wb fun e w' => e = .returned (.bool r) ∧ Below wb.heap.size wb w') := by rw [hr]; exact isEventGraph x a n cap l wb (h.below hb0)
  have HG := Lib.hid hG
  have HB0 := Lib.hid hb0
  have HRr := Lib.hid hr
  clear h hG hb0 hr
  cases r with
  | false =>
    have HR : Hid (M.ordRes x l = ([], 1)) := by show _ = _; unfold M.ordRes; rw [← HRr.out]; rfl
    go_enter Tryz.func95, Tryz.ntmps95
    go_wp2_with fail
    rw [← hwb]
    clear hwb
    refine (HS.out).mono ?_
    rintro e w1 ⟨rfl, hb1⟩
    have HB1 := Lib.hid (HB0.out.trans (hb1.mono HB0.out.size))
    obtain ⟨g0, g1⟩ := HG.out.below hb1
    clear hb1
    go_wp2
    go_ret2
    exact VRes.nil HR.out HB1.out
  | true =>
    obtain ⟨N, hN, n1, n2⟩ := gr_nat HRr.out.symm
    replace hN := hN.symm
    subst hN
    obtain ⟨v, hv⟩ : ∃ v, v = M.liveB (M.wtF M.fOne l) N := ⟨_, rfl⟩
    have HR : Hid (M.ordRes (N : Int) l = if v then (M.ordL (M.wtF M.fOne l) N N, 0) else ([], 5)) := by show _ = _; unfold M.ordRes; rw [← HRr.out, hv]; rfl
    have HC := Lib.hid (firingOrder N a n cap l · · HRr.out.symm)
    unfold FPost at HC
    rw [← hv] at HC
    clear hv
    cases v with
    | false =>
      go_enter Tryz.func95, Tryz.ntmps95
      go_wp2_with fail
      rw [← hwb]
      clear hwb
      refine (HS.out).mono ?_
      rintro e w1 ⟨rfl, hb1⟩
      have HB1 := Lib.hid (HB0.out.trans (hb1.mono HB0.out.size))
      obtain ⟨g0, g1⟩ := HG.out.below hb1
      clear hb1
      go_wp2_with fail
      refine (HC.out w1 (HI.out.below HB1.out)).mono ?_
      rintro e w2 ⟨b2, c2, rfl, -, hb2⟩
      have HB2 := Lib.hid (HB1.out.trans (hb2.mono HB1.out.size))
      clear hb2
      go_wp2
      go_ret2
      exact VRes.nil HR.out HB2.out
    | true =>
      go_enter Tryz.func95, Tryz.ntmps95
      go_wp2_with fail
      rw [← hwb]
      clear hwb
      refine (HS.out).mono ?_
      rintro e w1 ⟨rfl, hb1⟩
      have HB1 := Lib.hid (HB0.out.trans (hb1.mono HB0.out.size))
      obtain ⟨g0, g1⟩ := HG.out.below hb1
      clear hb1
      go_wp2_with fail
      refine (HC.out w1 (HI.out.below HB1.out)).mono ?_
      rintro e w2 ⟨b2, c2, rfl, ho, hb2⟩
      have HO2 := Lib.hid (ho.mono HB1.out.size)
      have HB2 := Lib.hid (HB1.out.trans (hb2.mono HB1.out.size))
      clear ho hb2
      go_wp2
      go_ret2
      rw [HR.out]
      exact ⟨_, _, _, rfl, HO2.out, HB2.out⟩
end V
end Go.Proofs.YtlofnadpgnbmdaaGreat

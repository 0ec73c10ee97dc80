/- Texts laid together: Rcr, Rcx, Rcy, Rcz, Fgd. -/
import Derived.Test.YtjbffpmelglegaaQa42
import Derived.Test.YtjbffpmelglegaaQa47
import Derived.BigQuiet
import Derived.Test.YtjbffpmelglegaaQa48
import Derived.Test.YtjbffpmelglegaaQa15
import Derived.Deep.RegionHeld3
import Derived.Test.YtjbffpmelglegaaQa54
set_option linter.unusedSimpArgs false
set_option linter.unusedVariables false
set_option linter.unusedSectionVars false
namespace Go.Proofs.Ytjbffpmelglegaa
namespace M
section
variable {l : List (Int × Int × Int × Int)} {N : Nat} (hn : N ≤ 10) (hp : noPos (wtF fOne l) N = true) (hl : plOk l N) (ht : ∀ p ∈ l, p.2.1 < (N : Int))
include hn hp hl
/-- Induction over the firings, and over the order within one. -/
theorem fire_ind {P : Nat → Nat → Prop} (h : ∀ (k e : Nat), 1 ≤ k → e < N → (∀ p ∈ l, p.2.1 = (e : Int) → p.2.2.2 < (k : Int) → P (k - p.2.2.2.toNat) p.1.toNat) → P k e) : ∀ (k e : Nat), 1 ≤ k → e < N → P k e := by
  intro k
  induction k using Nat.strongRecOn with
  | ind k ihk =>
    intro e hk he
    obtain ⟨t, htN, hte⟩ := ord_pos hn hp he
    clear he
    induction t using Nat.strongRecOn generalizing e with
    | ind t iht =>
      obtain ⟨e', he', h1, h2, h3, h4⟩ := ord_at (uz_graph l) hn hp htN
      have hee : e' = e := by rw [hte] at h1; omega
      subst hee
      refine h k e' hk he' fun p hpl q1 q3 => ?_
      have hb := hl p hpl
      by_cases hz : p.2.2.2 = 0
      · rw [hz]
        show P k p.1.toNat
        have ha := arc_zero hpl (i := e') (j := p.1.toNat) q1 (by omega) hz
        have hd := h4 p.1.toNat (by omega) ha
        have hjN : p.1.toNat < N := by omega
        obtain ⟨s, hs, hse⟩ := ord_pos hn hp hjN
        refine iht s ?_ p.1.toNat hs hse
        rcases Nat.lt_or_ge s t with q | q
        · exact q
        · exact absurd (by rw [hse]; rfl) (ord_later hn hp (t := t) hs q hd)
      · exact ihk (k - p.2.2.2.toNat) (by omega) p.1.toNat (by omega) (by omega)
variable (st : Nat → Int)
/-- No event fires before its start. -/
theorem tab_start {n k e : Nat} (h1 : 1 ≤ k) (hk : k ≤ n) (he : e < N) : st e ≤ tabT l (ordL (wtF fOne l) N N) st n k e := by
  rw [tab_eq hn hp hl.times st h1 hk he]
  exact rd_ge _ _ _ _ _
/-- Greater starts: no firing is earlier, and none is later by more than the greatest difference. -/
theorem tab_between (su : Nat → Int) {D : Int} (hD : 0 ≤ D) (h : ∀ e, st e ≤ su e ∧ su e ≤ st e + D) {n : Nat} : ∀ (k e : Nat), 1 ≤ k → e < N → k ≤ n → tabT l (ordL (wtF fOne l) N N) st n k e ≤ tabT l (ordL (wtF fOne l) N N) su n k e ∧ tabT l (ordL (wtF fOne l) N N) su n k e ≤ tabT l (ordL (wtF fOne l) N N) st n k e + D := by
  refine fire_ind hn hp hl fun k e h1 he ih hk => ?_
  have e1 := tab_eq hn hp hl.times st h1 hk he
  have e2 := tab_eq hn hp hl.times su h1 hk he
  constructor
  · rw [e1]
    refine rd_le ?_ fun p hpl q1 q3 => ?_
    · have := rd_ge (tabT l (ordL (wtF fOne l) N N) su n) k e l (su e)
      have := h e
      rw [e2]; omega
    · have hb := hl p hpl
      have h2 := ih p hpl q1 q3 (by omega)
      have h3 := rd_at (F := tabT l (ordL (wtF fOne l) N N) su n) (least := su e) hpl q1 q3
      rw [e2]
      omega
  · rw [e2]
    refine rd_le ?_ fun p hpl q1 q3 => ?_
    · have := rd_ge (tabT l (ordL (wtF fOne l) N N) st n) k e l (st e)
      have := h e
      rw [e1]; omega
    · have hb := hl p hpl
      have h2 := ih p hpl q1 q3 (by omega)
      have h3 := rd_at (F := tabT l (ordL (wtF fOne l) N N) st n) (least := st e) hpl q1 q3
      rw [e1]
      omega
/-- Times never fall. -/
theorem tab_up {n : Nat} (h0 : ∀ e, 0 ≤ st e) : ∀ (k e : Nat), 1 ≤ k → e < N → k + 1 ≤ n → tabT l (ordL (wtF fOne l) N N) st n k e ≤ tabT l (ordL (wtF fOne l) N N) st n (k + 1) e := by
  refine fire_ind hn hp hl fun k e h1 he ih hk => ?_
  have e1 := tab_eq hn hp hl.times st h1 (n := n) (by omega) he
  have e2 := tab_eq hn hp hl.times st (k := k + 1) (n := n) (by omega) hk he
  rw [e1]
  refine rd_le ?_ fun p hpl q1 q3 => ?_
  · rw [e2]; exact rd_ge _ _ _ _ _
  · have hb := hl p hpl
    have h2 := ih p hpl q1 q3 (by omega)
    have h3 := rd_at (F := tabT l (ordL (wtF fOne l) N N) st n) (k := k + 1) (least := st e) hpl q1 (by omega)
    rw [show k + 1 - p.2.2.2.toNat = k - p.2.2.2.toNat + 1 by omega] at h3
    rw [e2]
    omega
/-- The times are determined by the recurrence: two graphs whose recurrences agree have the same times. -/
theorem tab_same13 {l' : List (Int × Int × Int × Int)} (hp' : noPos (wtF fOne l') N = true) (hl' : plOk l' N) {n : Nat} (hr : ∀ (F : Nat → Nat → Int) (k e : Nat), (∀ r x, r ≤ n → 0 ≤ F r x) → rd F k e l (st e) = rd F k e l' (st e)) (hs : ∀ e, 0 ≤ st e) {S : Int} (hS : ∀ e, st e ≤ S) : ∀ (k e : Nat), 1 ≤ k → e < N → k ≤ n → tabT l (ordL (wtF fOne l) N N) st n k e = tabT l' (ordL (wtF fOne l') N N) st n k e := by
  have hS0 : 0 ≤ S := Int.le_trans (hs 0) (hS 0)
  refine fire_ind hn hp hl fun k e h1 he ih hk => ?_
  rw [tab_eq hn hp hl.times st h1 hk he, tab_eq hn hp' hl'.times st h1 hk he, ← hr _ _ _ fun r x _ => (tabT_bd l' _ st hS0 hl'.delays (fun e => ⟨hs e, hS e⟩) n r x).1]
  refine rd_congr (fun p hpl q1 q3 => ?_) _
  have hb := hl p hpl
  exact ih p hpl q1 q3 (by omega)
end
end M
end Go.Proofs.Ytjbffpmelglegaa

namespace Go.Proofs.Ytjbffpmelglegaa
namespace V
set_option maxRecDepth 100000
open Go.RowKit
set_option maxRecDepth 100000 in
set_option maxHeartbeats 1000000 in
theorem equalL (a : Option Addr) (n cap : Nat) (l : List Int) (a' : Option Addr) (n' cap' : Nat) (l' : List Int) (w : World) (h : Ints .i64 w a n l) (h' : Ints .i64 w a' n' l') :
    Calls Try.prog 102 #[.slice a n cap, .slice a' n' cap'] w fun e w' => e = .returned (.bool (decide (l = l'))) ∧ Below w.heap.size w w' := by
  have HI := Lib.hid h
  have HI' := Lib.hid h'
  have HL : Hid (l.length = n) := h.1
  have HL' : Hid (l'.length = n') := h'.1
  have hm := h.2.1
  have hm' := h'.2.1
  unfold maxLen at hm hm'
  clear h h'
  by_cases hn : n = n'
  · have hnn : ((n : Int) != (n' : Int)) = false := by simp [hn]
    have HN := Lib.hid hn
    clear hn
    go_enter Try.func102, Try.ntmps102
    go_wp2
    go_loopw [5, 13] (fun _ iv wr => ∃ k : Nat, k ≤ n ∧ iv = .int .i64 k ∧ Hid (∀ i, i < k → l.getD i 0 = l'.getD i 0) ∧ Hid (Below w.heap.size w wr)) (fun _ iv _ => n - (intOf iv).toNat)
    case atStart => exact ⟨0, Nat.zero_le _, rfl, fun i hi => absurd hi (Nat.not_lt_zero i), Below.refl _ _⟩
    case round =>
      obtain ⟨k, hk, rfl, HA, HB⟩ := hrel
      obtain ⟨wo, rfl⟩ : ∃ x, x = wr := ⟨_, rfl⟩
      by_cases hkn : k < n
      · have hki : (k : Int) < (n : Int) := by omega
        have hki' : (k : Int) < (n' : Int) := by have q := HN.out; omega
        obtain ⟨b, off, y, rfl, -, hy, c0⟩ := (HI.out.below HB.out).at k hkn
        obtain ⟨b', off', y', rfl, -, hy', c0'⟩ := (HI'.out.below HB.out).at k (by have q := HN.out; omega)
        by_cases hq : y = y'
        · have hqb : ((y : Int) != y') = false := by simp [hq]
          have HE : Hid (l.getD k 0 = l'.getD k 0) := by show _ = _; rw [← hy, ← hy', hq]
          clear hq hy hy'
          go_wp2
          go_quiet (fail)
          go_wp2
          go_roundw
          case rel => exact ⟨k + 1, by omega, by go_num, fun i hi => by rcases Nat.lt_or_ge i k with q | q; exact HA.out i q; rw [show i = k by omega]; exact HE.out, HB.out.trans ((b_draws _ _).mono HB.out.size)⟩
          case measure => simp [intOf]; omega
        · have hqb : ((y : Int) != y') = true := by simpa using hq
          have HE : Hid (decide (l = l') = false) := decide_eq_false fun e => hq (by rw [hy, hy', e])
          clear hq hy hy'
          go_wp2
          go_quiet (fail)
          go_wp2
          go_ret
          exact ⟨by rw [HE.out]; rfl, HB.out.trans ((b_draws _ _).mono HB.out.size)⟩
      · obtain rfl : k = n := by omega
        have HE : Hid (decide (l = l') = true) := decide_eq_true (by
          apply List.ext_getElem
          · rw [HL.out, HL'.out, HN.out]
          · intro i h1 h2
            have := HA.out i (by rw [← HL.out]; exact h1)
            rw [List.getD_eq_getElem?_getD, List.getD_eq_getElem?_getD, List.getElem?_eq_getElem h1, List.getElem?_eq_getElem h2] at this
            exact this)
        go_wp2
        go_ret
        exact ⟨by rw [HE.out]; rfl, HB.out⟩
  · have hnn : ((n : Int) != (n' : Int)) = true := by simp; omega
    have HE : Hid (decide (l = l') = false) := decide_eq_false fun e => hn (by rw [← HL.out, ← HL'.out, e])
    clear hn
    go_enter Try.func102, Try.ntmps102
    go_wp2
    go_ret
    exact ⟨by rw [HE.out]; rfl, Below.refl _ _⟩
set_option maxRecDepth 100000 in
set_option maxHeartbeats 1000000 in
theorem equalT (a : Option Addr) (n cap : Nat) (R : List (List Int)) (a' : Option Addr) (n' cap' : Nat) (R' : List (List Int)) (w : World) (h : Mat w a n R) (h' : Mat w a' n' R') :
    Calls Try.prog 101 #[.slice a n cap, .slice a' n' cap', .func (.func 102) #[] #[]] w fun e w' => e = .returned (.bool (decide (R = R'))) ∧ Below w.heap.size w w' := by
  have HI := Lib.hid h
  have HI' := Lib.hid h'
  have HL : Hid (R.length = n) := h.1
  have HL' : Hid (R'.length = n') := h'.1
  have hm := h.2.1
  have hm' := h'.2.1
  unfold maxLen at hm hm'
  clear h h'
  by_cases hn : n = n'
  · have hnn : ((n : Int) != (n' : Int)) = false := by simp [hn]
    have HN := Lib.hid hn
    clear hn
    go_enter Try.func101, Try.ntmps101
    go_wp2
    go_loopw [7, 8, 9, 17] (fun _ _ _ iv wr => ∃ k : Nat, k ≤ n ∧ iv = .int .i64 k ∧ Hid (∀ i, i < k → R.getD i [] = R'.getD i []) ∧ Hid (Below w.heap.size w wr)) (fun _ _ _ iv _ => n - (intOf iv).toNat)
    case atStart => exact ⟨0, Nat.zero_le _, rfl, fun i hi => absurd hi (Nat.not_lt_zero i), Below.refl _ _⟩
    case round =>
      obtain ⟨k, hk, rfl, HA, HB⟩ := hrel
      obtain ⟨wo, rfl⟩ : ∃ x, x = wr := ⟨_, rfl⟩
      by_cases hkn : k < n
      · have hki : (k : Int) < (n : Int) := by omega
        have hki' : (k : Int) < (n' : Int) := by have q := HN.out; omega
        obtain ⟨b, off, ra, rc, L, y, rfl, -, hy, c0, hI⟩ := (HI.out.below HB.out).at k hkn
        obtain ⟨b', off', ra', rc', L', y', rfl, -, hy', c0', hI'⟩ := (HI'.out.below HB.out).at k (by have q := HN.out; omega)
        obtain ⟨v, hv⟩ : ∃ v, v = decide (y = y') := ⟨_, rfl⟩
        have HC : Hid (Calls Try.prog 102 #[.slice ra L rc, .slice ra' L' rc'] wo fun e w' => e = .returned (.bool v) ∧ Below wo.heap.size wo w') := by rw [hv]; exact equalL ra L rc y ra' L' rc' y' wo hI hI'
        clear hI hI'
        cases v with
        | true =>
          have HE : Hid (R.getD k [] = R'.getD k []) := by show _ = _; rw [← hy, ← hy']; exact of_decide_eq_true hv.symm
          clear hv hy hy'
          go_wp2_with fail
          refine HC.out.mono ?_
          rintro e w2 ⟨rfl, hb2⟩
          have HB2 := Lib.hid (HB.out.trans (hb2.mono HB.out.size))
          clear hb2 c0 c0'
          go_wp2
          go_roundw
          case rel => exact ⟨k + 1, by omega, by go_num, fun i hi => by rcases Nat.lt_or_ge i k with q | q; exact HA.out i q; rw [show i = k by omega]; exact HE.out, HB2⟩
          case measure => simp [intOf]; omega
        | false =>
          have HE : Hid (decide (R = R') = false) := decide_eq_false fun e => (of_decide_eq_false hv.symm) (by rw [hy, hy', e])
          clear hv hy hy'
          go_wp2_with fail
          refine HC.out.mono ?_
          rintro e w2 ⟨rfl, hb2⟩
          have HB2 := Lib.hid (HB.out.trans (hb2.mono HB.out.size))
          clear hb2 c0 c0'
          go_wp2
          go_ret
          exact ⟨by rw [HE.out]; rfl, HB2.out⟩
      · obtain rfl : k = n := by omega
        have HE : Hid (decide (R = R') = true) := decide_eq_true (by
          apply List.ext_getElem
          · rw [HL.out, HL'.out, HN.out]
          · intro i h1 h2
            have := HA.out i (by rw [← HL.out]; exact h1)
            rw [List.getD_eq_getElem?_getD, List.getD_eq_getElem?_getD, List.getElem?_eq_getElem h1, List.getElem?_eq_getElem h2] at this
            exact this)
        go_wp2
        go_ret
        exact ⟨by rw [HE.out]; rfl, HB.out⟩
  · have hnn : ((n : Int) != (n' : Int)) = true := by simp; omega
    have HE : Hid (decide (R = R') = false) := decide_eq_false fun e => hn (by rw [← HL.out, ← HL'.out, e])
    clear hn
    go_enter Try.func101, Try.ntmps101
    go_wp2
    go_ret
    exact ⟨by rw [HE.out]; rfl, Below.refl _ _⟩
end V
end Go.Proofs.Ytjbffpmelglegaa

namespace Go.Proofs.Ytjbffpmelglegaa
namespace M
def iftB (x : Int) (l : List Pc) (T : List (List Int)) : Bool := decide (inCode (lvCode x l) (inB (T.length : Int) 0 50) = 0) && decide (timM l (ordL (wtF fOne l) x.toNat x.toNat) zst x.toNat T.length = T)
end M
namespace V
set_option maxRecDepth 100000
open Go.RowKit
set_option maxRecDepth 100000 in
set_option maxHeartbeats 2000000 in
theorem isFiringTable (x : Int) (a : Option Addr) (n cap : Nat) (l : List M.Pc) (ta : Option Addr) (tn tc : Nat) (T : List (List Int)) (w : World) (h : Pls w a n l) (hT : Mat w ta tn T) :
    Calls Try.prog 54 #[.agg #[.int .i64 x, .slice a n cap], .slice ta tn tc] w fun e w' => e = .returned (.bool (M.iftB x l T)) ∧ Below w.heap.size w w' := by
  have HT := Lib.hid hT
  have hm := hT.2.1
  unfold maxLen at hm
  have hb0 := b_alloc w (.cells #[.int .i64 x, .slice a n cap] 41)
  have hG := gBox_new w x a n cap 41
  obtain ⟨wb, hwb⟩ : ∃ z, z = w.alloc (.cells #[.int .i64 x, .slice a n cap] 41) := ⟨_, rfl⟩
  rw [← hwb] at hb0 hG
  have HWb := Lib.hid hwb.symm
  have HB0 := Lib.hid hb0
  obtain ⟨cd, hcd⟩ : ∃ c, c = M.inCode (M.lvCode x l) (M.inB (tn : Int) 0 50) := ⟨_, rfl⟩
  obtain ⟨TM, hTM⟩ : ∃ t, t = M.timM l (M.ordL (M.wtF M.fOne l) x.toNat x.toNat) M.zst x.toNat tn := ⟨_, rfl⟩
  have HC : Hid (Calls Try.prog 45 #[.agg #[.int .i64 x, .slice a n cap], .int .i64 tn] wb (MRes (if cd = 0 then (TM, 0) else ([], cd)) wb)) := by
    have := firingTimes x a n cap l (tn : Int) wb (h.below hb0)
    unfold M.ftRes at this
    rw [← hcd, Int.toNat_natCast, ← hTM] at this
    exact this
  have HR : Hid (M.iftB x l T = (decide (cd = 0) && decide (TM = T))) := by show _ = _; unfold M.iftB; rw [hT.1, ← hcd, ← hTM]
  obtain ⟨g0, g1⟩ := hG
  rw [hwb] at g0 g1
  clear h hb0 hwb hcd hTM hT
  by_cases h0 : cd = 0
  · subst h0
    rw [if_pos rfl] at HC
    have HR2 : Hid (M.iftB x l T = decide (TM = T)) := HR.out
    go_enter Try.func54, Try.ntmps54
    go_wp2_with fail
    rw [HWb.out]
    refine HC.out.mono ?_
    rintro e w2 ⟨b2, m2, c2, rfl, ho, hb⟩
    have HMt := Lib.hid ho.mat
    have HBw := Lib.hid (HB0.out.trans (hb.mono HB0.out.size))
    clear g0 g1 ho hb
    go_wp2_with fail
    refine (equalT _ _ _ TM _ _ _ T _ HMt.out (HT.out.below HBw.out)).mono ?_
    rintro e w3 ⟨rfl, hb⟩
    have HB3 := Lib.hid (HBw.out.trans (hb.mono HBw.out.size))
    clear hb
    go_wp2
    go_ret
    exact ⟨by rw [HR2.out]; rfl, HB3.out⟩
  · rw [if_neg h0] at HC
    have h0' : (cd == 0) = false := by simpa using h0
    have HR2 : Hid (M.iftB x l T = false) := by show _ = _; rw [HR.out, decide_eq_false h0]; rfl
    clear h0
    go_enter Try.func54, Try.ntmps54
    go_wp2_with fail
    rw [HWb.out]
    refine HC.out.mono ?_
    rintro e w2 ⟨b2, m2, c2, rfl, ho, hb⟩
    have HBw := Lib.hid (HB0.out.trans (hb.mono HB0.out.size))
    clear g0 g1 ho hb
    go_wp2
    go_ret
    exact ⟨by rw [HR2.out]; rfl, HBw.out⟩
end V
end Go.Proofs.Ytjbffpmelglegaa

namespace Go.Proofs.Ytjbffpmelglegaa
namespace V
set_option maxRecDepth 100000
open Go.RowKit
set_option maxRecDepth 100000 in
set_option maxHeartbeats 8000000 in
theorem sIsFiringTable (x : Int) (a : Option Addr) (n cap : Nat) (l : List M.Pc) (ta : Option Addr) (tn tc : Nat) (T : List (List Int)) (w : World) (h : Pls w a n l) (hT : Mat w ta tn T) :
    Calls Try.prog 55 #[.agg #[.int .i64 x, .slice a n cap], .slice ta tn tc] w fun e w' => e = .returned (.bool (M.iftB x l T)) ∧ Below w.heap.size w w' := by
  have HI := Lib.hid h
  have HT := Lib.hid hT
  have hm := hT.2.1
  unfold maxLen at hm
  have hb0 := b_alloc w (.cells #[.int .i64 x, .slice a n cap] 41)
  have hG := gBox_new w x a n cap 41
  obtain ⟨wb, hwb⟩ : ∃ z, z = w.alloc (.cells #[.int .i64 x, .slice a n cap] 41) := ⟨_, rfl⟩
  rw [← hwb] at hb0 hG
  have HWb := Lib.hid hwb.symm
  have HG := Lib.hid hG
  have HB0 := Lib.hid hb0
  obtain ⟨cd, hcd⟩ : ∃ c, c = M.lvCode x l := ⟨_, rfl⟩
  have HC : Hid (Calls Try.prog 84 #[.agg #[.int .i64 x, .slice a n cap]] wb fun e w' => e = .returned (.int .i64 cd) ∧ Below wb.heap.size wb w') := by rw [hcd]; exact sLive x a n cap l wb (h.below hb0)
  have HCd := Lib.hid hcd
  have HTl : Hid (T.length = tn) := hT.1
  obtain ⟨g0, g1⟩ := hG
  rw [hwb] at g0 g1
  clear h hb0 hwb hcd hT
  by_cases h0 : cd = 0
  · subst h0
    by_cases h5 : tn ≤ 50
    · have h5' : ¬ (tn : Int) > 50 := by omega
      have h5'' : (tn : Int) ≤ 50 := by omega
      obtain ⟨N, hxN, hgr, hlive, hnp, n1, n10⟩ := lv_live HCd.out.symm
      subst hxN
      have HGr := Lib.hid hgr
      have HNp := Lib.hid hnp
      have HR : Hid (M.iftB (N : Int) l T = decide (M.timM l (M.ordL (M.wtF M.fOne l) N N) M.zst N tn = T)) := by
        show _ = _
        unfold M.iftB
        rw [HTl.out, ← HCd.out, show M.inB (tn : Int) 0 50 = true by unfold M.inB; rw [decide_eq_true (show (0 : Int) ≤ tn by omega), decide_eq_true h5'']; rfl]
        rfl
      clear hgr hlive hnp
      go_enter Try.func55, Try.ntmps55
      go_wp2_with fail
      rw [HWb.out]
      refine HC.out.mono ?_
      rintro e w2 ⟨rfl, hb⟩
      have HBw := Lib.hid (HB0.out.trans (hb.mono HB0.out.size))
      have HG2 := Lib.hid (HG.out.below hb)
      clear g0 g1 hb
      obtain ⟨g0, g1⟩ := HG2.out
      have hmk := run_make_row' (P := Try.prog) 24 2 (.int .i64 0) 8 Try.underlying24 info64 rfl .i64 .i64 N (by omega) (by omega)
      have HTm : Hid (∀ za w', Below w2.heap.size w2 w' → Ints .i64 w' za N ((List.range N).map fun _ => (0 : Int)) → Calls Try.prog 95 #[.agg #[.int .i64 N, .slice a n cap], .int .i64 tn, .slice za N N] w' (MPost tn (M.timM l (M.ordL (M.wtF M.fOne l) N N) M.zst N tn) w')) := fun za w' hb' hz => sTimesZ N a n cap l tn za N w' (HI.out.below (HBw.out.trans (hb'.mono HBw.out.size))) HGr.out HNp.out h5 hz
      have hal : Below w2.heap.size w2 (w2.alloc (.cells (madeCells #[.int .i64 0] N) 2)).drew := (b_alloc w2 _).drew
      have hzs : Ints .i64 (w2.alloc (.cells (madeCells #[.int .i64 0] N) 2)).drew (some ⟨w2.heap.size, 0, none⟩) N ((List.range N).map fun _ => (0 : Int)) := (own_made w2 0 N (Nat.zero_le _) (by unfold maxLen; omega)).ints'.below (b_draws _ 1)
      have HAl := Lib.hid hal
      have HZs := Lib.hid hzs
      clear hal hzs
      go_wp2
      have HS0 : Hid (∀ w', Below w2.heap.size w2 w' → w'.cell? ⟨w.heap.size, 0, none⟩ = some (.int .i64 N) ∧ w'.cell? ⟨w.heap.size, 1, none⟩ = some (.slice a n cap) ∧ Below w2.heap.size w2 w') := fun w' hb' => ⟨(HG2.out.below hb').1, (HG2.out.below hb').2, hb'⟩
      refine wp_region_held_drew (S := fun w' => w'.cell? ⟨w.heap.size, 0, none⟩ = some (.int .i64 N) ∧ w'.cell? ⟨w.heap.size, 1, none⟩ = some (.slice a n cap) ∧ Below w2.heap.size w2 w') (by kernel_rfl) ?_ (fun hHeld => ?_)
      · exact HS0.out _ (b_draws w2 1)
      refine wpAnyH_take (i := 0) (v := ?vz0) rfl (by kernel_rfl) (by kernel_rfl) (by kernel_rfl) (fun _ _ _ h => h) (Or.inl ⟨by rfl, ?hyz0⟩) (by assumption) ?restz0
      case hyz0 => (intro wy hSw; (try dsimp only at hSw); obtain ⟨s0, s1, s2⟩ := hSw; go_simp; try with_reducible rfl)
      (try simp only [Act.put, List.getElem_toArray, List.getElem_cons_zero, List.getElem_cons_succ, List.setIfInBounds_toArray, List.set_cons_zero, List.set_cons_succ])
      refine wpAnyH_take (i := 1) (v := ?vz1) rfl (by kernel_rfl) (by kernel_rfl) (by kernel_rfl) (fun _ _ _ h => h) (Or.inl ⟨by rfl, ?hyz1⟩) (by assumption) ?restz1
      case hyz1 => (intro wy hSw; (try dsimp only at hSw); obtain ⟨s0, s1, s2⟩ := hSw; go_simp; try with_reducible rfl)
      (try simp only [Act.put, List.getElem_toArray, List.getElem_cons_zero, List.getElem_cons_succ, List.setIfInBounds_toArray, List.set_cons_zero, List.set_cons_succ])
      refine wpAnyH_take (i := 2) (v := ?vz2) rfl (by kernel_rfl) (by kernel_rfl) (by kernel_rfl) (fun _ _ _ h => h) (Or.inl ⟨by rfl, ?hyz2⟩) (by assumption) ?restz2
      case hyz2 => (intro wy hSw; (try dsimp only at hSw); obtain ⟨s0, s1, s2⟩ := hSw; go_simp; try with_reducible rfl)
      (try simp only [Act.put, List.getElem_toArray, List.getElem_cons_zero, List.getElem_cons_succ, List.setIfInBounds_toArray, List.set_cons_zero, List.set_cons_succ])
      refine wpAnyH_take (i := 3) (v := ?vz3) rfl (by kernel_rfl) (by kernel_rfl) (by kernel_rfl) (fun _ _ _ h => h) (Or.inl ⟨by rfl, ?hyz3⟩) (by assumption) ?restz3
      case hyz3 => (intro wy hSw; (try dsimp only at hSw); obtain ⟨s0, s1, s2⟩ := hSw; go_simp; try with_reducible rfl)
      (try simp only [Act.put, List.getElem_toArray, List.getElem_cons_zero, List.getElem_cons_succ, List.setIfInBounds_toArray, List.set_cons_zero, List.set_cons_succ])
      refine wpAnyH_take (i := 4) (v := ?vz4) rfl (by kernel_rfl) (by kernel_rfl) (by kernel_rfl) (fun _ _ _ h => h) (Or.inl ⟨by rfl, ?hyz4⟩) (by assumption) ?restz4
      case hyz4 => (intro wy hSw; (try dsimp only at hSw); obtain ⟨s0, s1, s2⟩ := hSw; go_simp; try with_reducible rfl)
      (try simp only [Act.put, List.getElem_toArray, List.getElem_cons_zero, List.getElem_cons_succ, List.setIfInBounds_toArray, List.set_cons_zero, List.set_cons_succ])
      refine wpAnyH_take (i := 7) (v := ?vz7) rfl (by kernel_rfl) (by kernel_rfl) (by kernel_rfl) (fun _ _ _ h => h) (Or.inl ⟨by rfl, ?hyz7⟩) (by assumption) ?restz7
      case hyz7 => (intro wy hSw; (try dsimp only at hSw); obtain ⟨s0, s1, s2⟩ := hSw; go_simp; try with_reducible rfl)
      (try simp only [Act.put, List.getElem_toArray, List.getElem_cons_zero, List.getElem_cons_succ, List.setIfInBounds_toArray, List.set_cons_zero, List.set_cons_succ])
      refine wpAnyH_ready (rs := [5]) (by kernel_rfl) (by simp) (AllReadyH.cons rfl (fun K hK => ?_) AllReadyH.nil)
      go_simp
      refine hK.out _ _ (HS0.out _ HAl.out) (fun hHeld => ?_)
      clear hK K
      (try simp only [Act.put, List.getElem_toArray, List.getElem_cons_zero, List.getElem_cons_succ, List.setIfInBounds_toArray, List.set_cons_zero, List.set_cons_succ])
      refine wpAnyH_ready (rs := [6]) (by kernel_rfl) (by simp) (AllReadyH.cons rfl (fun K hK => ?_) AllReadyH.nil)
      go_simp
      refine (HTm.out _ _ HAl.out HZs.out).mono ?_
      rintro e w3 ⟨b3, c3, rfl, ho, hb⟩
      have HB4 := Lib.hid (HAl.out.trans (hb.mono HAl.out.size))
      have HM3 := Lib.hid ho.mat
      clear ho hb
      refine hK.out _ _ (HS0.out _ HB4.out) (fun hHeld => ?_)
      clear hK K
      (try simp only [Act.put, List.getElem_toArray, List.getElem_cons_zero, List.getElem_cons_succ, List.setIfInBounds_toArray, List.set_cons_zero, List.set_cons_succ])
      refine wpAnyH_ready (rs := [8]) (by kernel_rfl) (by simp) (AllReadyH.cons rfl (fun K hK => ?_) AllReadyH.nil)
      go_simp
      refine (sSameM _ tn _ _ _ _ T w3 HM3.out (HT.out.below (HBw.out.trans (HB4.out.mono HBw.out.size))) (by omega)).mono ?_
      rintro e w4 ⟨rfl, q, hq⟩
      have HB5 : Hid (Below w2.heap.size w2 w4) := by show Below _ _ _; rw [hq]; exact HB4.out.trans ((b_draws _ _).mono HB4.out.size)
      clear hq
      refine hK.out _ _ (HS0.out _ HB5.out) (fun hHeld => ?_)
      clear hK K
      (try simp only [Act.put, List.getElem_toArray, List.getElem_cons_zero, List.getElem_cons_succ, List.setIfInBounds_toArray, List.set_cons_zero, List.set_cons_succ])
      refine wpAnyH_ready (rs := [9]) (by kernel_rfl) (by simp) (AllReadyH.cons rfl (fun K hK => ?_) AllReadyH.nil)
      go_simp
      refine hK.out _ _ (HS0.out _ HB5.out) (fun hHeld => ?_)
      clear hK K
      (try simp only [Act.put, List.getElem_toArray, List.getElem_cons_zero, List.getElem_cons_succ, List.setIfInBounds_toArray, List.set_cons_zero, List.set_cons_succ])
      refine wpAnyH_done (by kernel_rfl) ?_ _
      go_wp2
      go_ret
      exact ⟨by rw [HR.out]; rfl, HBw.out.trans (HB5.out.mono HBw.out.size)⟩
    · have h5' : (tn : Int) > 50 := by omega
      have HR : Hid (M.iftB x l T = false) := by
        show _ = _
        unfold M.iftB
        rw [HTl.out, ← HCd.out, show M.inB (tn : Int) 0 50 = false by unfold M.inB; rw [decide_eq_false (show ¬ (tn : Int) ≤ 50 by omega), Bool.and_false]]
        rfl
      go_enter Try.func55, Try.ntmps55
      go_wp2_with fail
      rw [HWb.out]
      refine HC.out.mono ?_
      rintro e w2 ⟨rfl, hb⟩
      have HBw := Lib.hid (HB0.out.trans (hb.mono HB0.out.size))
      clear g0 g1 hb
      go_wp2
      go_ret
      exact ⟨by rw [HR.out]; rfl, HBw.out⟩
  · have h0' : (cd != 0) = true := by simpa using h0
    have HR : Hid (M.iftB x l T = false) := by
      show _ = _
      unfold M.iftB
      rw [← HCd.out, decide_eq_false (fun q => h0 (M.inCode_t q).1)]
      rfl
    clear h0
    go_enter Try.func55, Try.ntmps55
    go_wp2_with fail
    rw [HWb.out]
    refine HC.out.mono ?_
    rintro e w2 ⟨rfl, hb⟩
    have HBw := Lib.hid (HB0.out.trans (hb.mono HB0.out.size))
    clear g0 g1 hb
    go_wp2
    go_ret
    exact ⟨by rw [HR.out]; rfl, HBw.out⟩
end V
end Go.Proofs.Ytjbffpmelglegaa

namespace Go.Proofs.Ytjbffpmelglegaa
namespace M
theorem hldK_ge (F : Nat → Nat → Int) (p : Pc) : ∀ j, -1 ≤ hldK F p j
  | 0 => Int.le_refl _
  | j + 1 => by
    have := hldK_ge F p j
    show -1 ≤ max _ _
    omega
theorem fir_facts {x yI c4 : Int} {l : List Pc} {TX : List (List Int)} {VH : List Int} (h1 : ftRes x l yI = (TX, 0)) (h4 : hldRes x l yI = (VH, c4)) :
    ∃ (N nn : Nat) (F : Nat → Nat → Int), x = (N : Int) ∧ 1 ≤ N ∧ N ≤ 10 ∧ yI = (nn : Int) ∧ nn ≤ 50 ∧ isGr (N : Int) l = true ∧ TX = mk nn N (fun r e => F (r + 1) e) ∧ (∀ r e, 0 ≤ F r e ∧ F r e ≤ 2000000) ∧
      (∀ k e, 1 ≤ k → e < N → k ≤ nn → rd F k e l 0 = F k e) ∧ (∀ k e, 1 ≤ k → e < N → k + 1 ≤ nn → F k e ≤ F (k + 1) e) ∧ iftB (N : Int) l TX = true ∧ ∀ i, i < VH.length → -1 ≤ VH.getD i 0 := by
  unfold ftRes at h1
  by_cases hc : inCode (lvCode x l) (inB yI 0 50) = 0
  · rw [if_pos hc] at h1
    obtain ⟨hlv, hut⟩ := inCode_t hc
    obtain ⟨N, hxN, hgr, hlive, hnp, n1, n10⟩ := V.lv_live hlv
    obtain ⟨nn, hnI, hnn⟩ := V.inB_nat (m := 50) hut
    subst hxN hnI
    injection h1 with h1 _
    have hN : (N : Int).toNat = N := by omega
    have hM : (nn : Int).toNat = nn := by omega
    rw [hN, hM] at h1
    refine ⟨N, nn, tabT l (ordL (wtF fOne l) N N) zst nn, rfl, n1, n10, rfl, hnn, hgr, h1.symm, V.tab_bd50 hgr hnp hnn, fun k e k1 he hk => (tab_eq n10 hnp (gr_plOk hgr).times zst k1 hk he).symm, fun k e k1 he hk => tab_up n10 hnp (gr_plOk hgr) zst (fun _ => Int.le_refl _) k e k1 he hk, ?_, ?_⟩
    · have hl : TX.length = nn := by rw [← h1]; exact mk_length _ _ _
      unfold iftB
      rw [hl, hN, h1]
      simp [hc]
    · intro i hi
      unfold hldRes at h4
      rw [if_pos hc] at h4
      injection h4 with h4 _
      subst h4
      unfold hldL at hi ⊢
      rw [List.length_map, List.length_range] at hi
      rw [List.getD_eq_getElem?_getD, List.getElem?_map, List.getElem?_range hi]
      exact hldK_ge _ _ _
  · rw [if_neg hc] at h1
    injection h1 with _ h1
    exact absurd h1 hc
theorem rdS_yes {F : Nat → Nat → Int} {k e : Nat} {m a b c : Int} {t : Nat} (hb : b = (e : Int)) (ht : (t : Int) < (k : Int)) : rdS F k e m (a, b, c, (t : Int)) = max m (F (k - t) a.toNat + c) := by
  unfold rdS
  rw [if_pos ⟨hb, ht⟩]
  rfl
theorem rdS_no {F : Nat → Nat → Int} {k e : Nat} {m a b c : Int} {t : Nat} (h : ¬(b = (e : Int) ∧ (t : Int) < (k : Int))) : rdS F k e m (a, b, c, (t : Int)) = m := if_neg h
end M
namespace V
open Go.RowKit
/-- Both forms of a number that is told as it is. -/
theorem wr2 {a c : Int} (h : a = c) (h1 : -1000000 ≤ c) (h2 : c ≤ 1000000) : wrap64 a = c ∧ IntKind.i64.wrap a = c := by
  subst h
  exact ⟨IntWalk.wrap64_in _ ⟨by omega, by omega⟩, IntWalk.i64_in _ (by omega)⟩
end V
end Go.Proofs.Ytjbffpmelglegaa

/- Texts laid together: Rcs. -/
import Derived.Test.YtjbffpmelglegaaQa47
set_option linter.unusedSimpArgs false
set_option linter.unusedVariables false
set_option linter.unusedSectionVars false
namespace Go.Proofs.Ytjbffpmelglegaa
namespace M
/-- A time within the range. -/
def tmW (v : Int) : Bool := inB v 0 1000000
def tmsB (x : Int) (L : List Int) : Bool := decide ((L.length : Int) = x) && L.all tmW
end M
namespace V
set_option maxRecDepth 100000
open Go.RowKit
set_option maxRecDepth 100000 in
set_option maxHeartbeats 400000 in
theorem isNoTime (v : Int) (w : World) : Calls Try.prog 140 #[.int .i64 v] w fun e w' => e = .returned (.bool (!M.tmW v)) ∧ w = w' := by
  obtain ⟨t, ht⟩ : ∃ t, t = M.tmW v := ⟨_, rfl⟩
  have HU : Hid (∀ W, Calls Try.prog 91 #[.int .i64 v, .int .i64 1000000] W fun e w' => e = .returned (.bool t) ∧ W = w') := fun W => by rw [ht]; exact isUpTo v 1000000 W
  rw [← ht]
  clear ht
  go_enter Try.func140, Try.ntmps140
  go_wp2_with (go_at_call 91; refine (HU.out _).mono ?_; rintro e w' ⟨rfl, rfl⟩)
  go_ret
  exact ⟨rfl, rfl⟩
set_option maxRecDepth 100000 in
set_option maxHeartbeats 1000000 in
theorem indexNoTime (a : Option Addr) (n cap : Nat) (l : List Int) (w : World) (h : Ints .i64 w a n l) :
    Calls Try.prog 168 #[.slice a n cap, .func (.func 140) #[] #[]] w fun e w' => w' = w ∧
      ((e = .returned (.int .i64 (-1)) ∧ l.all M.tmW = true) ∨ ∃ j : Nat, e = .returned (.int .i64 j) ∧ l.all M.tmW = false) := by
  have HI := Lib.hid h
  have HL : Hid (l.length = n) := h.1
  have hm := h.2.1
  unfold maxLen at hm
  clear h
  go_enter Try.func168, Try.ntmps168
  go_wp2
  go_loopw [5, 8] (fun _ iv wr => ∃ k : Nat, k ≤ n ∧ iv = .int .i64 k ∧ Hid (∀ j, j < k → M.tmW (l.getD j 0) = true) ∧ wr = w) (fun _ iv _ => n - (intOf iv).toNat)
  case atStart => exact ⟨0, Nat.zero_le _, rfl, fun j hj => absurd hj (Nat.not_lt_zero j), rfl⟩
  case round =>
    obtain ⟨k, hk, rfl, HA, rfl⟩ := hrel
    obtain ⟨w, rfl⟩ : ∃ x, x = wr := ⟨_, rfl⟩
    by_cases hkl : k < n
    · have hki : (k : Int) < (n : Int) := by omega
      obtain ⟨b, off, y, rfl, -, hy, c0⟩ := HI.out.at k hkl
      obtain ⟨t, ht⟩ : ∃ t, t = M.tmW y := ⟨_, rfl⟩
      have HT : Hid (M.tmW (l.getD k 0) = t) := by show _ = _; rw [← hy, ht]
      have HCa : Hid (∀ W, Calls Try.prog 140 #[.int .i64 y] W fun e w' => e = .returned (.bool (!t)) ∧ W = w') := fun W => by rw [ht]; exact isNoTime y W
      clear ht hy
      cases t with
      | true =>
        go_wp2_with (go_at_call 140; refine (HCa.out _).mono ?_; rintro e w' ⟨rfl, rfl⟩)
        go_roundw
        case rel => exact ⟨k + 1, by omega, by go_num, fun i hi => by rcases Nat.lt_or_ge i k with q | q; exact HA.out i q; rw [show i = k by omega]; exact HT.out, by first | rfl | trivial⟩
        case measure => simp [intOf]; omega
      | false =>
        go_wp2_with (go_at_call 140; refine (HCa.out _).mono ?_; rintro e w' ⟨rfl, rfl⟩)
        go_ret
        refine ⟨rfl, .inr ⟨k, rfl, ?_⟩⟩
        cases hq : l.all M.tmW with
        | false => rfl
        | true =>
          have := List.all_eq_true.1 hq (l.getD k 0) (by
            have hh : k < l.length := by rw [HL.out]; exact hkl
            rw [List.getD_eq_getElem?_getD, List.getElem?_eq_getElem hh]; exact List.getElem_mem hh)
          rw [HT.out] at this; cases this
    · obtain rfl : k = n := by omega
      have HE : Hid (l.all M.tmW = true) := List.all_eq_true.2 fun z hz => by
        obtain ⟨i, hi, rfl⟩ := List.mem_iff_getElem.1 hz
        have := HA.out i (by rw [← HL.out]; exact hi)
        rwa [List.getD_eq_getElem?_getD, List.getElem?_eq_getElem hi] at this
      go_wp2
      go_ret
      exact ⟨rfl, .inl ⟨rfl, HE.out⟩⟩
set_option maxRecDepth 100000 in
set_option maxHeartbeats 1000000 in
theorem containsNoTime (a : Option Addr) (n cap : Nat) (l : List Int) (w : World) (h : Ints .i64 w a n l) :
    Calls Try.prog 141 #[.slice a n cap, .func (.func 140) #[] #[]] w fun e w' => e = .returned (.bool (!l.all M.tmW)) ∧ w = w' := by
  have HC := Lib.hid (indexNoTime a n cap l w h)
  obtain ⟨v, hv⟩ : ∃ v, v = l.all M.tmW := ⟨_, rfl⟩
  rw [← hv] at HC ⊢
  clear h hv
  go_enter Try.func141, Try.ntmps141
  go_wp2_with fail
  refine (HC.out).mono ?_
  rintro e w1 ⟨rfl, ⟨rfl, rfl⟩ | ⟨j, rfl, rfl⟩⟩
  · go_wp2
    go_ret
    exact ⟨rfl, rfl⟩
  · have hj0 : (0 : Int) ≤ (j : Int) := by omega
    go_wp2
    go_ret
    exact ⟨rfl, rfl⟩
set_option maxRecDepth 100000 in
set_option maxHeartbeats 1000000 in
theorem hasTimes (x : Int) (a : Option Addr) (n cap : Nat) (b : Option Addr) (m c : Nat) (l : List Int) (w : World) (h : Ints .i64 w b m l) :
    Calls Try.prog 104 #[.agg #[.int .i64 x, .slice a n cap], .slice b m c] w fun e w' => e = .returned (.bool (M.tmsB x l)) ∧ Below w.heap.size w w' := by
  have hb0 := b_alloc w (.cells #[.int .i64 x, .slice a n cap] 41)
  have hG := gBox_new w x a n cap 41
  obtain ⟨wb, hwb⟩ : ∃ z, z = w.alloc (.cells #[.int .i64 x, .slice a n cap] 41) := ⟨_, rfl⟩
  rw [← hwb] at hb0 hG
  have HWb := Lib.hid hwb.symm
  obtain ⟨g0, g1⟩ := hG
  rw [hwb] at g0 g1
  obtain ⟨v, hv⟩ : ∃ v, v = l.all M.tmW := ⟨_, rfl⟩
  have HC : Hid (Calls Try.prog 141 #[.slice b m c, .func (.func 140) #[] #[]] wb fun e w' => e = .returned (.bool (!v)) ∧ wb = w') := by rw [hv]; exact containsNoTime b m c l wb (h.below hb0)
  have HB0 := Lib.hid hb0
  have hl := h.1
  have HR : Hid (M.tmsB x l = (decide ((m : Int) = x) && v)) := by show _ = _; unfold M.tmsB; rw [← hv, hl]
  clear h hb0 hwb hv hl
  by_cases hx : (m : Int) = x
  · have hx' : ((m : Int) == x) = true := by simp [hx]
    have HR2 : Hid (M.tmsB x l = v) := by show _ = _; rw [HR.out, decide_eq_true hx]; rfl
    clear hx HR
    go_enter Try.func104, Try.ntmps104
    go_wp2_with fail
    rw [HWb.out]
    refine HC.out.mono ?_
    rintro e w' ⟨rfl, rfl⟩
    clear g0 g1
    go_wp2
    go_ret
    exact ⟨by rw [HR2.out]; cases v <;> rfl, HB0.out⟩
  · have hx' : ((m : Int) == x) = false := by simpa using hx
    have HR2 : Hid (M.tmsB x l = false) := by show _ = _; rw [HR.out, decide_eq_false hx]; rfl
    clear hx HR
    go_enter Try.func104, Try.ntmps104
    go_wp2
    rw [HWb.out]
    clear g0 g1
    go_ret
    exact ⟨by rw [HR2.out]; rfl, HB0.out⟩
end V
end Go.Proofs.Ytjbffpmelglegaa

/- Texts laid together: Pot3, Img2, Cert, DrawR. -/
import Derived.Test.YtnnajlehhfmjfaaQe19
import Derived.Test.YtnnajlehhfmjfaaQe20
import Derived.Test.YtnnajlehhfmjfaaQe18
import Derived.Test.YtnnajlehhfmjfaaQe9
import Derived.Test.YtnnajlehhfmjfaaRows
import Derived.Test.YtnnajlehhfmjfaaQe1
import Derived.Test.YtnnajlehhfmjfaaQe2
import Derived.Test.YtnnajlehhfmjfaaQe12
import Derived.Test.YtnnajlehhfmjfaaQe7
import Derived.WalkKit
import Derived.ProofKit
import Derived.WalkSmall
import Derived.Deep.QuietTactic
import Derived.BigQuiet
import Derived.BigRegion
import Derived.Deep.Draws
import Derived.Lib.Hide
set_option linter.unusedSimpArgs false
set_option linter.unusedVariables false
set_option linter.unusedSectionVars false
namespace Go.Proofs.Ytnnajlehhfmjfaa
namespace M
theorem apply_at (R : List (List Int)) (l : List Int) {i : Nat} (hi : i < R.length) : (applyM R l).getD i 0 = dotV R l i l.length := by
  unfold applyM
  rw [List.getD_eq_getElem?_getD, List.getElem?_map, List.getElem?_range hi]; rfl
theorem isPotB_of {R : List (List Int)} {a b : Int} {x : List Int} (hs : sqB R = true) (hr : isRat a b = true) (hl : x.length = R.length) (hf : x.all isFin = true) :
    isPotB R a b x = (List.range R.length).all fun i => decide ((applyM (mk R.length R.length (shf (ent R) a b)) x).getD i 0 ≤ x.getD i 0) := by
  unfold isPotB holdsB
  rw [hs, hr, hf, decide_eq_true hl]
  have e : ∀ i, i < R.length → (applyM (mk R.length R.length (shf (ent R) a b)) x).getD i 0 = sumN R.length fun j => times (shf (ent R) a b i j) (x.getD j 0) := fun i hi => by
    rw [apply_at _ _ (by rw [mk_length]; exact hi), hl]
    unfold dotV
    exact sumN_congr fun j hj => by rw [ent_mk _ _ _ _ _ hi hj]
  simp only [Bool.true_and]
  rw [Bool.eq_iff_iff, List.all_eq_true, List.all_eq_true]
  constructor
  · intro h i hi; rw [e i (List.mem_range.1 hi)]; exact h i hi
  · intro h i hi; rw [← e i (List.mem_range.1 hi)]; exact h i hi
theorem isPotB_no {R : List (List Int)} {a b : Int} {x : List Int} (h : ¬ (x.length = R.length ∧ x.all isFin = true)) : isPotB R a b x = false := by
  unfold isPotB holdsB
  by_cases h1 : x.length = R.length
  · have h2 : x.all isFin = false := by
      cases e : x.all isFin with
      | false => rfl
      | true => exact absurd ⟨h1, e⟩ h
    rw [h2]; simp
  · rw [decide_eq_false h1]; simp
end M
namespace V
open Go.RowKit
set_option maxRecDepth 100000 in
set_option maxHeartbeats 400000 in
theorem indexI (a : Option Addr) (n cap : Nat) (l : List Int) (x : Int) (w : World) (h : Ints .i64 w a n l) :
    Calls Try.prog 110 #[.slice a n cap, .int .i64 x] w fun e w' => ∃ k : Int, e = .returned (.int .i64 k) ∧ (0 ≤ k ↔ x ∈ l) ∧ w = w' := by
  obtain ⟨hl, hm, hr⟩ := h
  unfold maxLen at hm
  have HL := Lib.hid hl
  clear hl
  go_enter Try.func110, Try.ntmps110
  go_wp2
  go_loop [5, 8] (fun _ i => ∃ k : Nat, k ≤ n ∧ i = .int .i64 k ∧ Hid (∀ i, i < k → l.getD i 0 ≠ x)) (fun _ i => n - (intOf i).toNat)
  case atStart => exact ⟨0, Nat.zero_le _, rfl, fun i hi => absurd hi (Nat.not_lt_zero i)⟩
  case round =>
    obtain ⟨k, hk, rfl, HK⟩ := hrel
    by_cases hlt : k < n
    · have hki : (k : Int) < (n : Int) := by omega
      rcases hr with h0 | ⟨b, off, rfl, hbl, hc⟩
      · omega
      · have hck := hc k hlt
        obtain ⟨y, hy⟩ : ∃ y, y = l.getD k 0 := ⟨_, rfl⟩
        rw [← hy] at hck
        have HY := Lib.hid hy
        clear hc hy
        by_cases hxy : x = y
        · have HM : Hid (x ∈ l) := by
            show _ ∈ _
            rw [hxy, HY.out]
            have hkl : k < l.length := by have := HL.out; omega
            rw [List.getD_eq_getElem?_getD, List.getElem?_eq_getElem hkl]
            exact List.getElem_mem hkl
          subst hxy
          go_wp2
          go_ret
          exact ⟨_, rfl, ⟨fun _ => HM.out, fun _ => by omega⟩, rfl⟩
        · have hxy2 : (x == y) = false := by simpa using hxy
          have HK2 : Hid (∀ i, i < k + 1 → l.getD i 0 ≠ x) := fun i hi => by
            by_cases e : i = k
            · subst e; rw [← HY.out]; exact fun e => hxy e.symm
            · exact HK.out i (by omega)
          go_wp2
          go_round
          case rel => exact ⟨k + 1, by omega, by go_num, HK2⟩
          case measure => simp [intOf]; omega
    · obtain rfl : k = n := by omega
      have HN : Hid (¬ x ∈ l) := fun hm => by
        obtain ⟨i, hi, rfl⟩ := List.mem_iff_getElem.1 hm
        have := HK.out i (by have := HL.out; omega)
        rw [List.getD_eq_getElem?_getD, List.getElem?_eq_getElem hi] at this
        exact this rfl
      clear hr
      go_wp2
      go_ret
      exact ⟨_, rfl, ⟨fun h => by omega, fun h => absurd h HN.out⟩, rfl⟩
set_option maxRecDepth 100000 in
set_option maxHeartbeats 400000 in
theorem containsI (a : Option Addr) (n cap : Nat) (l : List Int) (x : Int) (b : Bool) (w : World) (h : Ints .i64 w a n l) (hb : b = true ↔ x ∈ l) :
    Calls Try.prog 70 #[.slice a n cap, .int .i64 x] w fun e w' => e = .returned (.bool b) ∧ w = w' := by
  have HI := Lib.hid h
  have HB := Lib.hid hb
  clear h hb
  go_enter Try.func70, Try.ntmps70
  go_wp2_with fail
  refine (indexI _ _ _ l _ _ HI.out).mono ?_
  rintro e w' ⟨k, rfl, hk, rfl⟩
  have HK : Hid (decide (0 ≤ k) = b) := by
    show _ = _
    rw [Bool.eq_iff_iff, decide_eq_true_eq, hk, HB.out]
  clear hk
  go_wp2
  go_ret
  exact ⟨retB HK.out, rfl⟩
theorem vec_fin {l : List Int} (hv : M.isVec l = true) {b : Bool} (hb : l.all M.isFin = b) : (!b) = true ↔ (-1000000000000000 : Int) ∈ l := by
  subst hb
  rw [Bool.not_eq_true', ← Bool.not_eq_true, List.all_eq_true]
  constructor
  · intro h
    apply Classical.byContradiction
    intro hn
    apply h
    intro x hx
    obtain ⟨i, hi, rfl⟩ := List.mem_iff_getElem.1 hx
    have := M.isVal_t ((M.isVec_t hv).2.2 i hi)
    simp only [List.getD_eq_getElem?_getD, List.getElem?_eq_getElem hi, Option.getD_some] at this
    rcases this with e | e
    · rw [e] at hx; exact absurd hx hn
    · simp [M.isFin]; omega
  · intro h k
    have := k _ h
    exact absurd this (by decide)
end V
end Go.Proofs.Ytnnajlehhfmjfaa

namespace Go.Proofs.Ytnnajlehhfmjfaa
namespace M
def okArc (P : Nat → Nat → Int) (x : List Int) (i k : Nat) : Prop := P i k = -1000000000000000 ∨ P i k + x.getD k 0 ≤ x.getD i 0
theorem holdsB_of {R : List (List Int)} {a b : Int} {x : List Int} (hl : x.length = R.length) (hf : x.all isFin = true) :
    holdsB R a b x = true ↔ ∀ i, i < R.length → ∀ k, k < R.length → okArc (shf (ent R) a b) x i k := by
  unfold holdsB
  rw [hf, decide_eq_true hl]
  simp only [Bool.true_and, Bool.and_true, List.all_eq_true, List.mem_range, decide_eq_true_eq]
  have hfin : ∀ k, k < R.length → -1000000 ≤ x.getD k 0 ∧ x.getD k 0 ≤ 1000000 := fun k hk => by
    have hk' : k < x.length := by omega
    have := List.all_eq_true.1 hf x[k] (List.getElem_mem hk')
    rw [List.getD_eq_getElem?_getD, List.getElem?_eq_getElem hk']
    exact isFin_t this
  have ht : ∀ i k, k < R.length → times (shf (ent R) a b i k) (x.getD k 0) = if shf (ent R) a b i k = -1000000000000000 then -1000000000000000 else shf (ent R) a b i k + x.getD k 0 := fun i k hk => by
    have := hfin k hk
    unfold times
    by_cases e : shf (ent R) a b i k = -1000000000000000
    · rw [if_pos (.inl e), if_pos e]
    · rw [if_neg (by rintro (h | h) <;> omega), if_neg e]
  constructor
  · intro h i hi k hk
    have h1 := sum_ge (f := fun j => times (shf (ent R) a b i j) (x.getD j 0)) hk
    have h2 := h i hi
    have h1 : times (shf (ent R) a b i k) (x.getD k 0) ≤ _ := h1
    rw [ht i k hk] at h1
    by_cases e : shf (ent R) a b i k = -1000000000000000
    · exact .inl e
    · rw [if_neg e] at h1; exact .inr (Int.le_trans h1 h2)
  · intro h i hi
    have := hfin i hi
    refine sum_le (by omega) fun k hk => ?_
    show times (shf (ent R) a b i k) (x.getD k 0) ≤ _
    rw [ht i k hk]
    rcases h i hi k hk with e | e
    · rw [if_pos e]; omega
    · by_cases e2 : shf (ent R) a b i k = -1000000000000000
      · rw [if_pos e2]; omega
      · rw [if_neg e2]; exact e
end M
namespace V
open Go.RowKit
set_option maxRecDepth 100000 in
set_option maxHeartbeats 4000000 in
theorem sHolds (a : Option Addr) (n cap : Nat) (R : List (List Int)) (num den : Int) (a' : Option Addr) (N cap' : Nat) (l : List Int) (w0 : World) (h : Mat w0 a n R) (h' : Ints .i64 w0 a' N l) (hs : M.sqB R = true) (hr : M.isRat num den = true) :
    Calls Try.prog 68 #[.slice a n cap, .agg #[.int .i64 num, .int .i64 den], .slice a' N cap'] w0 fun e w' => e = .returned (.bool (M.holdsB R num den l)) ∧ Below w0.heap.size w0 w' := by
  obtain ⟨w, hwd⟩ : ∃ w, w = w0.alloc (rbox num den) := ⟨_, rfl⟩
  have HX : Hid (Boxed w0 w num den) := by show Boxed _ _ _ _; rw [hwd]; exact boxed _ _ _
  have HA : Hid (Mat w a n R) := h.below HX.out.below
  have HI : Hid (Ints .i64 w a' N l) := h'.below HX.out.below
  have HL := Lib.hid h'.1
  have HZ := Lib.hid HX.out.size
  obtain ⟨c0, c1⟩ := HX.out.cells (Below.refl _ _)
  obtain ⟨r1, n1, n2, r4⟩ := sq_parts HA.out hs
  have HQ := Lib.hid r1
  have HSm := Lib.hid r4
  have HR := Lib.hid hr
  have HSh : Hid (∀ i j, i < n → j < n → M.Sm 1000001000000 (M.shf (M.ent R) num den i j)) := fun i j hi hj => M.shf_sm (M.near_rat hr) (r4 i j hi hj)
  have HRl := Lib.hid HA.out.1
  by_cases hN : N = n
  · subst hN
    obtain ⟨b, hb⟩ : ∃ b, b = l.all M.isFin := ⟨_, rfl⟩
    have HF := Lib.hid hb.symm
    cases b with
    | true =>
      have HE : Hid (M.holdsB R num den l = true ↔ ∀ i, i < N → ∀ k, k < N → M.okArc (M.shf (M.ent R) num den) l i k) := by
        show _ ↔ _
        have := M.holdsB_of (a := num) (b := den) (show l.length = R.length by rw [HRl.out]; exact HL.out) hb.symm
        rw [HRl.out] at this
        exact this
      have HFin : Hid (∀ k, k < N → -1000000 ≤ l.getD k 0 ∧ l.getD k 0 ≤ 1000000) := fun k hk => by
        have hk' : k < l.length := by have := HL.out; omega
        have := List.all_eq_true.1 hb.symm l[k] (List.getElem_mem hk')
        rw [List.getD_eq_getElem?_getD, List.getElem?_eq_getElem hk']
        exact M.isFin_t this
      clear h h' hs hr r1 r4 hb
      go_enter Try.func68, Try.ntmps68
      go_wp2_with fail
      simp only [← hwd] at *
      clear hwd
      refine (sAllF_b _ _ _ l true HF.out _ HI.out).mono ?_
      rintro e w' ⟨rfl, rfl⟩
      go_wp2_with fail
      refine (sShift _ _ _ R _ _ _ HA.out HQ.out n1 n2 HSm.out (M.near_rat HR.out)).mono ?_
      rintro e w2 ⟨a2, cap2, rfl, hO, hb⟩
      obtain ⟨g, -, -, -, -, rfl, -⟩ := hO.tri (rect_mk _ _ _) 0 0 0 (by omega) (by omega) (by omega)
      have HO := Lib.hid hO
      have HB := Lib.hid (HX.out.trans hb)
      have HIl := Lib.hid (HI.out.below hb)
      clear hO hb
      obtain ⟨lb, lo, l0, rfl, -, -, -⟩ := HIl.out.at 0 (by omega)
      go_wp2
      go_loopw [8] (fun i wr => ∃ s : Nat, s ≤ N ∧ i = .int .i64 s ∧ Hid (∀ i, i < s → ∀ k, k < N → M.okArc (M.shf (M.ent R) num den) l i k) ∧ ∃ qd, wr = w2.drewN qd) (fun i _ => N - (intOf i).toNat)
      case atStart => exact ⟨0, Nat.zero_le _, rfl, fun i hi => absurd hi (Nat.not_lt_zero i), 0, rfl⟩
      case round =>
        obtain ⟨s, hs, rfl, HK, qd, rfl⟩ := hrel
        by_cases hsl : s < N
        · have hsi : (s : Int) < (N : Int) := by omega
          go_wp2
          go_loopw [9] (fun j wr => ∃ t : Nat, t ≤ N ∧ j = .int .i64 t ∧ Hid (∀ k, k < t → M.okArc (M.shf (M.ent R) num den) l s k) ∧ ∃ qd, wr = w2.drewN qd) (fun j _ => N - (intOf j).toNat)
          case atStart => exact ⟨0, Nat.zero_le _, rfl, fun i hi => absurd hi (Nat.not_lt_zero i), _, rfl⟩
          case round =>
            obtain ⟨t, ht, rfl, HJ, qe, rfl⟩ := hrel
            by_cases htl : t < N
            · have hti : (t : Int) < (N : Int) := by omega
              obtain ⟨g2, q, c, q', c', hgg, hq, h1, h2, -, -, -, -, -⟩ := HO.out.tri (rect_mk _ _ _) s t t hsl htl htl
              injection hgg with hgg
              injection hgg with hgg
              subst hgg
              rw [M.ent_mk _ _ _ _ _ hsl htl] at h2
              obtain ⟨d1, d2, u, hd, -, hu, cu⟩ := HIl.out.at t htl
              injection hd with hd
              injection hd with e1 e2
              subst e1 e2
              obtain ⟨d1, d2, v, hd, -, hv, cv⟩ := HIl.out.at s hsl
              injection hd with hd
              injection hd with e1 e2
              subst e1 e2
              have hfu := HFin.out t htl
              have hfv := HFin.out s hsl
              rw [← hu] at hfu
              rw [← hv] at hfv
              have HU := Lib.hid hu
              have HVv := Lib.hid hv
              obtain ⟨z, hz⟩ : ∃ z, z = M.shf (M.ent R) num den s t := ⟨_, rfl⟩
              rw [← hz] at h2
              have hzs := HSh.out s t hsl htl
              rw [← hz] at hzs
              unfold M.Sm at hzs
              have HZz := Lib.hid hz
              clear hu hv hz
              by_cases hzb : z = -1000000000000000
              · have HJ2 : Hid (∀ k, k < t + 1 → M.okArc (M.shf (M.ent R) num den) l s k) := fun k hk => by
                  by_cases e : k = t
                  · subst e; left; rw [← HZz.out, hzb]
                  · exact HJ.out k (by omega)
                subst hzb
                go_wp2
                go_quiet (fail)
                go_wp2
                go_roundw
                case rel => exact ⟨t + 1, by omega, by go_num, HJ2, _, by first | rfl | exact World.drewN_drewN _ _ _⟩
                case measure => simp [intOf]; omega
              · have hzn : (z != -1000000000000000) = true := by simpa using hzb
                have hzn2 : (z == -1000000000000000) = false := by simpa using hzb
                have e1 : IntKind.i64.wrap (z + u) = z + u := IntWalk.i64_in _ (by omega)
                by_cases hgt : v < z + u
                · have HFf : Hid (M.holdsB R num den l = false) := by
                    show _ = _
                    cases e : M.holdsB R num den l with
                    | false => rfl
                    | true =>
                      have := HE.out.1 e s hsl t htl
                      unfold M.okArc at this
                      rw [← HZz.out, ← HU.out, ← HVv.out] at this
                      omega
                  go_wp2
                  go_quiet (fail)
                  go_wp2
                  go_ret
                  exact ⟨retB HFf.out.symm, by first | exact below_drewN HB.out _ | exact below_drewN (below_drewN HB.out _) _⟩
                · have hgt2 : z + u ≤ v := by omega
                  have HJ2 : Hid (∀ k, k < t + 1 → M.okArc (M.shf (M.ent R) num den) l s k) := fun k hk => by
                    by_cases e : k = t
                    · subst e; right; rw [← HZz.out, ← HU.out, ← HVv.out]; exact hgt2
                    · exact HJ.out k (by omega)
                  go_wp2
                  go_quiet (fail)
                  go_wp2
                  go_roundw
                  case rel => exact ⟨t + 1, by omega, by go_num, HJ2, _, by first | rfl | exact World.drewN_drewN _ _ _⟩
                  case measure => simp [intOf]; omega
            · obtain rfl : t = N := by omega
              have HK2 : Hid (∀ i, i < s + 1 → ∀ k, k < t → M.okArc (M.shf (M.ent R) num den) l i k) := fun i hi k hk => by
                by_cases e : i = s
                · subst e; exact HJ.out k hk
                · exact HK.out i (by omega) k hk
              go_wp2
              go_roundw
              case rel => exact ⟨s + 1, by omega, by go_num, HK2, _, rfl⟩
              case measure => simp [intOf]; omega
        · obtain rfl : s = N := by omega
          have HT : Hid (M.holdsB R num den l = true) := HE.out.2 fun i hi k hk => HK.out i hi k hk
          go_wp2
          go_ret
          exact ⟨retB HT.out.symm, below_drewN HB.out _⟩
    | false =>
      have HE : Hid (M.holdsB R num den l = false) := by show _ = _; unfold M.holdsB; rw [← hb]; simp
      clear h h' hs hr r1 r4 hb
      go_enter Try.func68, Try.ntmps68
      go_wp2_with fail
      simp only [← hwd] at *
      clear hwd
      refine (sAllF_b _ _ _ l false HF.out _ HI.out).mono ?_
      rintro e w' ⟨rfl, rfl⟩
      go_wp2
      go_ret
      exact ⟨retB HE.out.symm, HX.out.below⟩
  · have HE : Hid (M.holdsB R num den l = false) := by
      show _ = _; unfold M.holdsB
      rw [decide_eq_false (fun e => hN (by rw [← HL.out, e, HRl.out]))]; simp
    have hne : ((N : Int) != (n : Int)) = true := by simp; omega
    have hne2 : ((N : Int) == (n : Int)) = false := by simp; omega
    have hne3 : (N == n) = false := by simpa using hN
    clear h h' hs hr r1 r4
    go_enter Try.func68, Try.ntmps68
    go_wp2
    try simp only [← hwd] at *
    go_ret
    exact ⟨retB HE.out.symm, HX.out.below⟩
set_option maxRecDepth 100000 in
set_option maxHeartbeats 2000000 in
theorem sIsPotential (a : Option Addr) (n cap : Nat) (R : List (List Int)) (num den : Int) (a' : Option Addr) (N cap' : Nat) (l : List Int) (w0 : World) (h : Mat w0 a n R) (h' : Ints .i64 w0 a' N l) :
    Calls Try.prog 38 #[.slice a n cap, .agg #[.int .i64 num, .int .i64 den], .slice a' N cap'] w0 fun e w' => e = .returned (.bool (M.isPotB R num den l)) ∧ Below w0.heap.size w0 w' := by
  obtain ⟨w, hwd⟩ : ∃ w, w = w0.alloc (rbox num den) := ⟨_, rfl⟩
  have HX : Hid (Boxed w0 w num den) := by show Boxed _ _ _ _; rw [hwd]; exact boxed _ _ _
  have HA : Hid (Mat w a n R) := h.below HX.out.below
  have HI : Hid (Ints .i64 w a' N l) := h'.below HX.out.below
  have HZ := Lib.hid HX.out.size
  by_cases hs : M.sqB R = true
  · have HS := Lib.hid hs
    by_cases hr : M.isRat num den = true
    · have HR := Lib.hid hr
      have HE : Hid (M.isPotB R num den l = M.holdsB R num den l) := by show _ = _; unfold M.isPotB; rw [hs, hr]; rfl
      clear h h' hs hr
      go_enter Try.func38, Try.ntmps38
      go_wp2_with fail
      simp only [← hwd] at *
      clear hwd
      refine (sSquare_b _ _ _ R _ true HS.out HA.out).mono ?_
      rintro e w' ⟨rfl, qd, rfl⟩
      obtain ⟨p0, p1⟩ := HX.out.cells (b_draws w qd)
      go_wp2_with fail
      refine (sIsRatio_b _ _ true HR.out _).mono ?_
      rintro e w1 ⟨rfl, hb1⟩
      have HB1 := Lib.hid ((b_draws w qd).trans hb1)
      obtain ⟨p0, p1⟩ := HX.out.cells HB1.out
      clear hb1
      go_wp2_with fail
      refine (sHolds _ _ _ R _ _ _ _ _ l _ (HA.out.below HB1.out) (HI.out.below HB1.out) HS.out HR.out).mono ?_
      rintro e w2 ⟨rfl, hb⟩
      have HB2 := Lib.hid (HX.out.trans (bnext HB1.out hb))
      clear hb
      go_wp2
      go_ret
      exact ⟨retB HE.out.symm, HB2.out⟩
    · simp only [Bool.not_eq_true] at hr
      have HR := Lib.hid hr
      have HE : Hid (M.isPotB R num den l = false) := by show _ = _; unfold M.isPotB; rw [hs, hr]; rfl
      clear h h' hs hr
      go_enter Try.func38, Try.ntmps38
      go_wp2_with fail
      simp only [← hwd] at *
      clear hwd
      refine (sSquare_b _ _ _ R _ true HS.out HA.out).mono ?_
      rintro e w' ⟨rfl, qd, rfl⟩
      obtain ⟨p0, p1⟩ := HX.out.cells (b_draws w qd)
      go_wp2_with fail
      refine (sIsRatio_b _ _ false HR.out _).mono ?_
      rintro e w1 ⟨rfl, hb1⟩
      have HB1 := Lib.hid (HX.out.trans ((b_draws w qd).trans hb1))
      clear hb1
      go_wp2
      go_ret
      exact ⟨retB HE.out.symm, HB1.out⟩
  · simp only [Bool.not_eq_true] at hs
    have HS := Lib.hid hs
    have HE : Hid (M.isPotB R num den l = false) := by show _ = _; unfold M.isPotB; rw [hs]; rfl
    clear h h' hs
    go_enter Try.func38, Try.ntmps38
    go_wp2_with fail
    simp only [← hwd] at *
    clear hwd
    refine (sSquare_b _ _ _ R _ false HS.out HA.out).mono ?_
    rintro e w' ⟨rfl, qd, rfl⟩
    go_wp2
    go_ret
    exact ⟨retB HE.out.symm, HX.out.trans (b_draws w qd)⟩
end V
end Go.Proofs.Ytnnajlehhfmjfaa

namespace Go.Proofs.Ytnnajlehhfmjfaa
namespace V
open Go.RowKit
theorem M.ext_at {l l' : List Int} {n : Nat} (h1 : l.length = n) (h2 : l'.length = n) (h : ∀ i, i < n → l.getD i 0 = l'.getD i 0) : l = l' := by
  apply List.ext_getElem (by omega)
  intro k k1 k2
  have := h k (by omega)
  simpa [k1, k2] using this
set_option maxRecDepth 100000 in
set_option maxHeartbeats 1000000 in
theorem isPotential (a : Option Addr) (n cap : Nat) (R : List (List Int)) (num den : Int) (a' : Option Addr) (N cap' : Nat) (l : List Int) (w0 : World) (h : Mat w0 a n R) (h' : Ints .i64 w0 a' N l) :
    Calls Try.prog 39 #[.slice a n cap, .agg #[.int .i64 num, .int .i64 den], .slice a' N cap'] w0 fun e w' => e = .returned (.bool (M.isPotB R num den l)) ∧ Below w0.heap.size w0 w' := by
  obtain ⟨w, hwd⟩ : ∃ w, w = w0.alloc (rbox num den) := ⟨_, rfl⟩
  have HX : Hid (Boxed w0 w num den) := by show Boxed _ _ _ _; rw [hwd]; exact boxed _ _ _
  have HA : Hid (Mat w a n R) := h.below HX.out.below
  have HI : Hid (Ints .i64 w a' N l) := h'.below HX.out.below
  have HL := Lib.hid h'.1
  have HRn := Lib.hid h.1
  have HZ := Lib.hid HX.out.size
  obtain ⟨c0, c1⟩ := HX.out.cells (Below.refl _ _)
  obtain ⟨b, hb⟩ : ∃ b, b = M.imgB R num den l := ⟨_, rfl⟩
  have HB := Lib.hid hb.symm
  cases b with
  | false =>
    have HE : Hid (M.isPotB R num den l = false) := by show _ = _; rw [M.pot_img, ← hb]; rfl
    clear h h' hb
    go_enter Try.func39, Try.ntmps39
    go_wp2_with fail
    simp only [← hwd] at *
    clear hwd
    refine (shiftedImage _ _ _ R _ _ _ _ _ l _ HA.out HI.out).mono ?_
    rintro e w1 ⟨b1, m, c, rfl, ho, hb⟩
    rw [HB.out]
    have HB1 := Lib.hid (HX.out.trans hb)
    clear ho hb
    go_wp2
    go_ret
    exact ⟨retB HE.out.symm, HB1.out⟩
  | true =>
    obtain ⟨y, hy⟩ : ∃ y, y = M.imgL R num den l := ⟨_, rfl⟩
    obtain ⟨d, hd⟩ : ∃ d, d = l.any fun v => decide (v = -1000000000000000) := ⟨_, rfl⟩
    have HD : Hid (d = true ↔ (-1000000000000000 : Int) ∈ l) := by
      show _ ↔ _
      rw [hd, List.any_eq_true]
      exact ⟨fun ⟨x, hx, e⟩ => by rw [decide_eq_true_eq] at e; rw [← e]; exact hx, fun h => ⟨_, h, by simp⟩⟩
    have HE : Hid (M.isPotB R num den l = (!d && M.atMostB y l)) := by show _ = _; rw [M.pot_img, ← hb, hy, hd]; rfl
    have HY : Hid (M.imgR R num den l = y) := by show _ = _; rw [M.imgR_t hb.symm, hy]
    have hyl : y.length = N := by rw [hy, M.imgL_len, h.1, ← (M.cmpOk_t (by rw [M.imgB_cmp, eq_comm, Bool.and_eq_true] at hb; exact hb.1)).2.2.2.trans h.1, h'.1]
    have hN10 : N ≤ 1000 := by
      have := M.cmpOk_t (R := R) (a := num) (b := den) (x := l) (by rw [M.imgB_cmp, eq_comm, Bool.and_eq_true] at hb; exact hb.1)
      have h2 := (M.isVec_t this.2.2.1).2.1
      rw [h'.1] at h2; omega
    have HYl := Lib.hid hyl
    clear h h' hb hy hyl hd
    cases d with
    | true =>
      have HDm : Hid ((-1000000000000000 : Int) ∈ l) := HD.out.1 rfl
      clear HD
      go_enter Try.func39, Try.ntmps39
      go_wp2_with fail
      simp only [← hwd] at *
      clear hwd
      refine (shiftedImage _ _ _ R _ _ _ _ _ l _ HA.out HI.out).mono ?_
      rintro e w1 ⟨b1, m, c, rfl, ho, hb⟩
      rw [HB.out]
      have HB1 := Lib.hid (HX.out.trans hb)
      have HI1 := Lib.hid (HI.out.below hb)
      clear ho hb
      go_wp2_with fail
      refine (containsI _ _ _ l _ true _ HI1.out ⟨fun _ => HDm.out, fun _ => rfl⟩).mono ?_
      rintro e w' ⟨rfl, rfl⟩
      go_wp2
      go_ret
      exact ⟨retB HE.out.symm, HB1.out⟩
    | false =>
      have HDn : Hid (¬ (-1000000000000000 : Int) ∈ l) := fun k => by have := HD.out.2 k; cases this
      clear HD
      go_enter Try.func39, Try.ntmps39
      go_wp2_with fail
      simp only [← hwd] at *
      clear hwd
      refine (shiftedImage _ _ _ R _ _ _ _ _ l _ HA.out HI.out).mono ?_
      rintro e w1 ⟨b1, m, c, rfl, ho, hb⟩
      rw [HB.out]
      rw [HY.out] at ho
      obtain rfl : m = N := by rw [ho.len, HYl.out]
      have HO := Lib.hid ho.ints'
      have HB1 := Lib.hid (HX.out.trans hb)
      have HI1 := Lib.hid (HI.out.below hb)
      clear ho hb
      go_wp2_with fail
      refine (containsI _ _ _ l _ false _ HI1.out ⟨fun k => absurd k Bool.false_ne_true, fun k => absurd k HDn.out⟩).mono ?_
      rintro e w' ⟨rfl, rfl⟩
      go_wp2_with fail
      refine (isAtMost _ _ _ y _ _ l _ HO.out HI1.out hN10).mono ?_
      rintro e w' ⟨rfl, rfl⟩
      go_wp2
      go_ret
      exact ⟨retB HE.out.symm, HB1.out⟩
end V
end Go.Proofs.Ytnnajlehhfmjfaa

namespace Go.Proofs.Ytnnajlehhfmjfaa
namespace M
theorem isPotB_t {R : List (List Int)} {a b : Int} {x : List Int} (h : isPotB R a b x = true) : sqB R = true ∧ isRat a b = true := by
  unfold isPotB at h
  rw [Bool.and_eq_true, Bool.and_eq_true] at h
  exact h.1
theorem certB_1 {R : List (List Int)} {a b : Int} {l x : List Int} (h : isPotB R a b x = false) : certB R a b l x = false := by unfold certB; rw [h]; rfl
theorem certB_2 {R : List (List Int)} {a b : Int} {l x : List Int} (h : cycB R l = false) : certB R a b l x = false := by unfold certB; rw [h]; simp
theorem certB_3 {R : List (List Int)} {a b : Int} {l x : List Int} (h : isPotB R a b x = true) (hc : cycB R l = true) : certB R a b l x = decide (meanR (aroundW R l) l.length = (a, b)) := by unfold certB; rw [h, hc]; rfl
end M
namespace V
open Go.RowKit
theorem three (a b c d : Int) : (c = a ∧ d = b) ∨ (c = a ∧ ¬ b = d ∧ (b == d) = false) ∨ (¬ a = c ∧ (a == c) = false) := by
  by_cases h1 : a = c
  · by_cases h2 : b = d
    · exact .inl ⟨h1.symm, h2.symm⟩
    · exact .inr (.inl ⟨h1.symm, h2, by simpa using h2⟩)
  · exact .inr (.inr ⟨h1, by simpa using h1⟩)
set_option maxRecDepth 100000 in
set_option maxHeartbeats 2000000 in
theorem isMeanCertificate (a : Option Addr) (n cap : Nat) (R : List (List Int)) (num den : Int) (a' : Option Addr) (N cap' : Nat) (l : List Int) (a'' : Option Addr) (K cap'' : Nat) (x : List Int) (w0 : World) (h : Mat w0 a n R) (h' : Ints .i64 w0 a' N l) (h'' : Ints .i64 w0 a'' K x) (hc1 : N ≤ cap') (hc2 : cap' ≤ maxLen) :
    Calls Try.prog 45 #[.slice a n cap, .agg #[.int .i64 num, .int .i64 den], .slice a' N cap', .slice a'' K cap''] w0 fun e w' => e = .returned (.bool (M.certB R num den l x)) ∧ Below w0.heap.size w0 w' := by
  obtain ⟨w, hwd⟩ : ∃ w, w = w0.alloc (rbox num den) := ⟨_, rfl⟩
  have HX : Hid (Boxed w0 w num den) := by show Boxed _ _ _ _; rw [hwd]; exact boxed _ _ _
  have HA : Hid (Mat w a n R) := h.below HX.out.below
  have HI : Hid (Ints .i64 w a' N l) := h'.below HX.out.below
  have HJ : Hid (Ints .i64 w a'' K x) := h''.below HX.out.below
  have HM := Lib.hid hc2
  have HZ := Lib.hid HX.out.size
  obtain ⟨c0, c1⟩ := HX.out.cells (Below.refl _ _)
  obtain ⟨b, hb⟩ : ∃ b, b = M.isPotB R num den x := ⟨_, rfl⟩
  have HP := Lib.hid hb
  cases b with
  | false =>
    have HE := Lib.hid (M.certB_1 (l := l) hb.symm)
    clear h h' h'' hb hc2
    go_enter Try.func45, Try.ntmps45
    go_wp2_with fail
    simp only [← hwd] at *
    clear hwd
    refine (isPotential _ _ _ R _ _ _ _ _ x _ HA.out HJ.out).mono ?_
    rintro e w1 ⟨rfl, hb1⟩
    rw [← HP.out]
    have HB1 := Lib.hid (HX.out.trans hb1)
    clear hb1
    go_wp2
    go_ret
    exact ⟨retB HE.out.symm, HB1.out⟩
  | true =>
    obtain ⟨hs, hr⟩ := M.isPotB_t hb.symm
    have HS := Lib.hid hs
    obtain ⟨c, hc⟩ : ∃ c, c = M.cycB R l := ⟨_, rfl⟩
    have HIC : Hid (M.isCycB R l = c) := by show _ = _; unfold M.isCycB; rw [hs, ← hc]; rfl
    cases c with
    | false =>
      have HE := Lib.hid (M.certB_2 (a := num) (b := den) (x := x) hc.symm)
      clear h h' h'' hb hc2 hs hr hc
      go_enter Try.func45, Try.ntmps45
      go_wp2_with fail
      simp only [← hwd] at *
      clear hwd
      refine (isPotential _ _ _ R _ _ _ _ _ x _ HA.out HJ.out).mono ?_
      rintro e w1 ⟨rfl, hb1⟩
      rw [← HP.out]
      have HB1 := Lib.hid hb1
      clear hb1
      go_wp2_with fail
      refine (isCycle_b _ _ _ R _ _ _ l _ false HIC.out (HA.out.below HB1.out) (HI.out.below HB1.out) hc1 HM.out).mono ?_
      rintro e w2 ⟨rfl, hb2⟩
      have HB2 := Lib.hid (HX.out.trans (bnext HB1.out hb2))
      clear hb2
      go_wp2
      go_ret
      exact ⟨retB HE.out.symm, HB2.out⟩
    | true =>
      have HC := Lib.hid hc.symm
      obtain ⟨m, hm⟩ : ∃ m, m = M.meanR (M.aroundW R l) l.length := ⟨_, rfl⟩
      have HMn := Lib.hid hm
      have HE : Hid (M.certB R num den l x = decide (m = (num, den))) := by show _ = _; rw [M.certB_3 hb.symm hc.symm, hm]
      clear h h' h'' hb hc2 hs hr hc hm
      obtain ⟨m1, m2⟩ := m
      have HE2 : Hid ((m1 == num && m2 == den) = M.certB R num den l x) := by
        show _ = _
        rw [HE.out, Bool.eq_iff_iff, Bool.and_eq_true, decide_eq_true_eq, beq_iff_eq, beq_iff_eq, Prod.mk.injEq]
      rcases three m1 m2 num den with ⟨rfl, rfl⟩ | ⟨rfl, e2, e3⟩ | ⟨e2, e3⟩
      all_goals
        go_enter Try.func45, Try.ntmps45
        go_wp2_with fail
        simp only [← hwd] at *
        clear hwd
        refine (isPotential _ _ _ R _ _ _ _ _ x _ HA.out HJ.out).mono ?_
        rintro e w1 ⟨rfl, hb1⟩
        rw [← HP.out]
        have HB1 := Lib.hid hb1
        clear hb1
        go_wp2_with fail
        refine (isCycle_b _ _ _ R _ _ _ l _ true HIC.out (HA.out.below HB1.out) (HI.out.below HB1.out) hc1 HM.out).mono ?_
        rintro e w2 ⟨rfl, hb2⟩
        have HB2 := Lib.hid (bnext HB1.out hb2)
        clear hb2
        obtain ⟨p0, p1⟩ := HX.out.cells HB2.out
        have hlt : w0.heap.size < w2.heap.size := by have := HB2.out.size; have := HZ.out; omega
        go_wp2
        go_region_held3 (fun w' => w'.cell? ⟨w0.heap.size, 0, none⟩ = some (.int .i64 num) ∧ w'.cell? ⟨w0.heap.size, 1, none⟩ = some (.int .i64 den) ∧ Below w2.heap.size w2 w') (first | exact ⟨p0, p1, (Below.refl _ _).drew⟩ | exact V.keep3 hlt ‹_ ∧ _ ∧ Below _ _ _› hb)
          (first | (go_at_call 77; refine (givenMean _ _ _ R _ _ _ l _ (HA.out.below (HB2.out.trans ((V.low3 ‹_ ∧ _ ∧ Below _ _ _›).mono HB2.out.size))) HS.out HC.out (HI.out.below (HB2.out.trans ((V.low3 ‹_ ∧ _ ∧ Below _ _ _›).mono HB2.out.size))) hc1 HM.out).mono ?_; rintro e w3 ⟨rfl, hb⟩; rw [← HMn.out]))
        all_goals
          have hb3 : Below w2.heap.size w2 w3 := V.low3 (by assumption)
          have HB3 := Lib.hid (HX.out.trans (HB2.out.trans (hb3.mono HB2.out.size)))
          clear hb hb3
          go_wp2
          all_goals
            go_ret
            refine ⟨retB ?_, HB3.out⟩
            rw [← HE2.out]
            try simp_all
set_option maxRecDepth 100000 in
set_option maxHeartbeats 2000000 in
theorem sIsMeanCertificate (a : Option Addr) (n cap : Nat) (R : List (List Int)) (num den : Int) (a' : Option Addr) (N cap' : Nat) (l : List Int) (a'' : Option Addr) (K cap'' : Nat) (x : List Int) (w0 : World) (h : Mat w0 a n R) (h' : Ints .i64 w0 a' N l) (h'' : Ints .i64 w0 a'' K x) (hc1 : N ≤ cap') (hc2 : cap' ≤ maxLen) :
    Calls Try.prog 44 #[.slice a n cap, .agg #[.int .i64 num, .int .i64 den], .slice a' N cap', .slice a'' K cap''] w0 fun e w' => e = .returned (.bool (M.certB R num den l x)) ∧ Below w0.heap.size w0 w' := by
  obtain ⟨w, hwd⟩ : ∃ w, w = w0.alloc (rbox num den) := ⟨_, rfl⟩
  have HX : Hid (Boxed w0 w num den) := by show Boxed _ _ _ _; rw [hwd]; exact boxed _ _ _
  have HA : Hid (Mat w a n R) := h.below HX.out.below
  have HI : Hid (Ints .i64 w a' N l) := h'.below HX.out.below
  have HJ : Hid (Ints .i64 w a'' K x) := h''.below HX.out.below
  have HM := Lib.hid hc2
  have HZ := Lib.hid HX.out.size
  obtain ⟨c0, c1⟩ := HX.out.cells (Below.refl _ _)
  obtain ⟨b, hb⟩ : ∃ b, b = M.isPotB R num den x := ⟨_, rfl⟩
  have HP := Lib.hid hb
  cases b with
  | false =>
    have HE := Lib.hid (M.certB_1 (l := l) hb.symm)
    clear h h' h'' hb hc2
    go_enter Try.func44, Try.ntmps44
    go_wp2_with fail
    simp only [← hwd] at *
    clear hwd
    refine (sIsPotential _ _ _ R _ _ _ _ _ x _ HA.out HJ.out).mono ?_
    rintro e w1 ⟨rfl, hb1⟩
    rw [← HP.out]
    have HB1 := Lib.hid (HX.out.trans hb1)
    clear hb1
    go_wp2
    go_ret
    exact ⟨retB HE.out.symm, HB1.out⟩
  | true =>
    obtain ⟨hs, hr⟩ := M.isPotB_t hb.symm
    have HS := Lib.hid hs
    by_cases hc : M.cycB R l = true
    · obtain ⟨m, hm⟩ : ∃ m, m = M.meanR (M.aroundW R l) l.length := ⟨_, rfl⟩
      have HC : Hid (M.mean2 R l = (m, true)) := by show _ = _; unfold M.mean2; rw [if_pos hc, hm]
      have HE : Hid (M.certB R num den l x = decide (m = (num, den))) := by show _ = _; rw [M.certB_3 hb.symm hc, hm]
      clear h h' h'' hb hc2 hs hr hc hm
      obtain ⟨m1, m2⟩ := m
      have HE2 : Hid ((m1 == num && m2 == den) = M.certB R num den l x) := by
        show _ = _
        rw [HE.out, Bool.eq_iff_iff, Bool.and_eq_true, decide_eq_true_eq, beq_iff_eq, beq_iff_eq, Prod.mk.injEq]
      go_enter Try.func44, Try.ntmps44
      go_wp2_with fail
      simp only [← hwd] at *
      clear hwd
      refine (sIsPotential _ _ _ R _ _ _ _ _ x _ HA.out HJ.out).mono ?_
      rintro e w1 ⟨rfl, hb1⟩
      rw [← HP.out]
      have HB1 := Lib.hid hb1
      clear hb1
      go_wp2_with fail
      refine (sMean _ _ _ R _ _ _ l _ (HA.out.below HB1.out) HS.out (HI.out.below HB1.out) hc1 HM.out).mono ?_
      rintro e w2 ⟨rfl, hb2⟩
      rw [HC.out]
      have HB2 := Lib.hid (bnext HB1.out hb2)
      obtain ⟨p0, p1⟩ := HX.out.cells HB2.out
      have hlt : w0.heap.size < w2.heap.size := by have := HB2.out.size; have := HZ.out; omega
      clear hb2
      go_wp2
      all_goals
        go_ret
        refine ⟨retB ?_, by first | exact (HX.out.trans HB2.out).alloc (HX.out.trans HB2.out).size _ | exact HX.out.trans HB2.out⟩
        rw [← HE2.out]
        try simp_all
    · simp only [Bool.not_eq_true] at hc
      have HC : Hid (M.mean2 R l = ((0, 0), false)) := by show _ = _; unfold M.mean2; rw [if_neg (by rw [hc]; exact Bool.false_ne_true)]
      have HE := Lib.hid (M.certB_2 (a := num) (b := den) (x := x) hc)
      clear h h' h'' hb hc2 hs hr hc
      go_enter Try.func44, Try.ntmps44
      go_wp2_with fail
      simp only [← hwd] at *
      clear hwd
      refine (sIsPotential _ _ _ R _ _ _ _ _ x _ HA.out HJ.out).mono ?_
      rintro e w1 ⟨rfl, hb1⟩
      rw [← HP.out]
      have HB1 := Lib.hid hb1
      clear hb1
      go_wp2_with fail
      refine (sMean _ _ _ R _ _ _ l _ (HA.out.below HB1.out) HS.out (HI.out.below HB1.out) hc1 HM.out).mono ?_
      rintro e w2 ⟨rfl, hb2⟩
      rw [HC.out]
      have HB2 := Lib.hid (bnext HB1.out hb2)
      obtain ⟨p0, p1⟩ := HX.out.cells HB2.out
      clear hb2
      go_wp2
      go_ret
      exact ⟨retB HE.out.symm, by first | exact (HX.out.trans HB2.out).alloc (HX.out.trans HB2.out).size _ | exact HX.out.trans HB2.out⟩
end V
end Go.Proofs.Ytnnajlehhfmjfaa

namespace Go.Proofs.Ytnnajlehhfmjfaa.V
open Go.RowKit

theorem Thr.setNew {g : Nat} {a b : World} (h : Thr g a b) {p : Addr} (hp : a.heap.size ≤ p.block) (hg : g ≤ p.block) (v : Value) : Thr g a (b.setCell p v) :=
  ⟨h.below.setCell hg v, fun k h1 h2 => (Below.heap_setCell _ _ _ _ (by omega)).trans (h.other k h1 h2)⟩
theorem Src.setNew {w : World} {g : Nat} (h : Src w g) {p : Addr} (hg : g < p.block) (v : Value) : Src (w.setCell p v) g := h.below ((Below.refl _ _).setCell hg v)

/-- A drawn ratio: two integers. -/
def RatPost (g : Nat) (w : World) (e : Ending) (w' : World) : Prop :=
  ∃ x y : Int, e = .returned (.agg #[.int .i64 x, .int .i64 y]) ∧ (Lit.int .i64 x).wf = true ∧ (Lit.int .i64 y).wf = true ∧ Src w' g ∧ Thr g w w'

end Go.Proofs.Ytnnajlehhfmjfaa.V

/- Texts laid together: Cip. -/
import Derived.Test.YtlofnadpgnbmdaaQa52
set_option linter.unusedSimpArgs false
set_option linter.unusedVariables false
set_option linter.unusedSectionVars false
namespace Go.Proofs.Ytlofnadpgnbmdaa
namespace M
/-- Whether a place's inequality holds. -/
def hldP (xs : List Int) (r0 r1 : Int) (p : Pc) : Bool := !decide (xs.getD p.2.1.toNat 0 < xs.getD p.1.toNat 0 + fExc r0 r1 p)
def itpB (x : Int) (l : List Pc) (r0 r1 : Int) (xs : List Int) : Bool := isGr x l && (isRat r0 r1 && (decide ((xs.length : Int) = x) && (xs.all isFin && l.all (hldP xs r0 r1))))
end M
namespace V
set_option maxRecDepth 100000
open Go.RowKit
set_option maxRecDepth 100000 in
set_option maxHeartbeats 400000 in
theorem isNotFin (v : Int) (w : World) : Calls Try.prog 94 #[.int .i64 v] w fun e w' => e = .returned (.bool (!M.isFin v)) ∧ Below w.heap.size w w' := by
  have HU : Hid (∀ W, Calls Try.prog 95 #[.int .i64 v] W fun e w' => e = .returned (.bool (M.isFin v)) ∧ W = w') := fun W => isFinite v W
  generalize M.isFin v = t at *
  go_enter Try.func94, Try.ntmps94
  go_wp2_with (go_at_call 95; refine (HU.out _).mono ?_; rintro e w' ⟨rfl, rfl⟩)
  go_ret
  exact ⟨rfl, Below.refl _ _⟩
set_option maxRecDepth 100000 in
set_option maxHeartbeats 1000000 in
theorem indexNotFin  (a : Option Addr) (n cap : Nat) (l : List Int) (w : World)  (h : Ints .i64 w a n l) :
    Calls Try.prog 141 #[.slice a n cap, .func (.func 94) #[] #[]] w fun e w' => Below w.heap.size w w' ∧
      ((e = .returned (.int .i64 (-1)) ∧ l.all M.isFin = true) ∨ ∃ j : Nat, e = .returned (.int .i64 j) ∧ l.all M.isFin = false) := by
  have HI := Lib.hid h
  have HL : Hid (l.length = n) := h.1
  have hm := h.2.1
  unfold maxLen at hm
  skip
  clear h
  go_enter Try.func141, Try.ntmps141
  go_wp2
  go_loopw [5, 8] (fun _ iv wr => ∃ k : Nat, k ≤ n ∧ iv = .int .i64 k ∧ Hid (∀ j, j < k → M.isFin (l.getD j 0) = true) ∧ Hid (Below w.heap.size w wr)) (fun _ iv _ => n - (intOf iv).toNat)
  case atStart => exact ⟨0, Nat.zero_le _, rfl, fun j hj => absurd hj (Nat.not_lt_zero j), Below.refl _ _⟩
  case round =>
    obtain ⟨k, hk, rfl, HA, HW⟩ := hrel
    by_cases hkl : k < n
    · have hki : (k : Int) < (n : Int) := by omega
      obtain ⟨b, off, y, rfl, -, hy, c0⟩ := (HI.out.below HW.out).at k hkl
      obtain ⟨t, ht⟩ : ∃ t, t = M.isFin y := ⟨_, rfl⟩
      have HT : Hid (M.isFin (l.getD k 0) = t) := by show _ = _; rw [← hy, ht]
      have HCa : Hid (Calls Try.prog 94 #[.int .i64 y] wr fun e w' => e = .returned (.bool (!t)) ∧ Below wr.heap.size wr w') := by show Calls _ _ _ _ _; rw [ht]; exact isNotFin y wr
      clear ht hy
      have HS := Lib.hid HW.out.size
      cases t with
      | true =>
        go_wp2_with (go_at_call 94; refine (HCa.out).mono ?_; rintro e w' ⟨rfl, hb'⟩)
        go_roundw
        case rel => exact ⟨k + 1, by omega, by go_num, fun i hi => by rcases Nat.lt_or_ge i k with q | q; exact HA.out i q; rw [show i = k by omega]; exact HT.out, HW.out.trans (hb'.mono HS.out)⟩
        case measure => simp [intOf]; omega
      | false =>
        go_wp2_with (go_at_call 94; refine (HCa.out).mono ?_; rintro e w' ⟨rfl, hb'⟩)
        go_ret
        refine ⟨HW.out.trans (hb'.mono HS.out), .inr ⟨k, rfl, ?_⟩⟩
        cases hq : l.all M.isFin with
        | false => rfl
        | true =>
          have := List.all_eq_true.1 hq (l.getD k 0) (by
            have hh : k < l.length := by rw [HL.out]; exact hkl
            rw [List.getD_eq_getElem?_getD, List.getElem?_eq_getElem hh]; exact List.getElem_mem hh)
          rw [HT.out] at this; cases this
    · obtain rfl : k = n := by omega
      have HE : Hid (l.all M.isFin = true) := List.all_eq_true.2 fun z hz => by
        obtain ⟨i, hi, rfl⟩ := List.mem_iff_getElem.1 hz
        have := HA.out i (by rw [← HL.out]; exact hi)
        rwa [List.getD_eq_getElem?_getD, List.getElem?_eq_getElem hi] at this
      go_wp2
      go_ret
      exact ⟨HW.out, .inl ⟨rfl, HE.out⟩⟩
set_option maxRecDepth 100000 in
set_option maxHeartbeats 1000000 in
theorem containsNotFin  (a : Option Addr) (n cap : Nat) (l : List Int) (v : Bool) (hv : l.all M.isFin = v) (w : World)  (h : Ints .i64 w a n l) :
    Calls Try.prog 98 #[.slice a n cap, .func (.func 94) #[] #[]] w fun e w' => e = .returned (.bool (!v)) ∧ Below w.heap.size w w' := by
  have HC := Lib.hid (indexNotFin  a n cap l w  h)
  have HV := Lib.hid hv
  clear h hv
  go_enter Try.func98, Try.ntmps98
  go_wp2_with fail
  refine (HC.out).mono ?_
  rintro z w1 ⟨hb, ⟨rfl, hall⟩ | ⟨j, rfl, hall⟩⟩
  · rw [HV.out] at hall
    subst hall
    have HB := Lib.hid hb
    clear hb
    go_wp2
    go_ret
    exact ⟨rfl, HB.out⟩
  · rw [HV.out] at hall
    subst hall
    have hj0 : (0 : Int) ≤ (j : Int) := by omega
    have HB := Lib.hid hb
    clear hb
    go_wp2
    go_ret
    exact ⟨rfl, HB.out⟩
/-- The boxes of a list and of a ratio. -/
def XBox (w : World) (bx br : Nat) (xa : Option Addr) (xn xc : Nat) (r0 r1 : Int) : Prop := w.cell? ⟨bx, 0, none⟩ = some (.slice xa xn xc) ∧ RQ w br (r0, r1)
theorem XBox.below {w w' : World} {bx br : Nat} {xa : Option Addr} {xn xc : Nat} {r0 r1 : Int} (h : XBox w bx br xa xn xc r0 r1) (hb : Below w.heap.size w w') : XBox w' bx br xa xn xc r0 r1 :=
  ⟨(hb.cell (cell_lt h.1)).trans h.1, h.2.eq (hb.block _ (cell_lt h.2.1))⟩
set_option maxRecDepth 100000 in
set_option maxHeartbeats 4000000 in
theorem isMissedX (bx br : Nat) (xa : Option Addr) (xn xc : Nat) (xs : List Int) (r0 r1 : Int) (i j : Nat) (p2 p3 : Int) (w : World) (hX : XBox w bx br xa xn xc r0 r1) (hI : Ints .i64 w xa xn xs) (hf : xs.all M.isFin = true) (hr : M.isRat r0 r1 = true) (hi : i < xn) (hj : j < xn) (h2 : 0 ≤ p2) (h2' : p2 ≤ 1000) (h3 : 0 ≤ p3) (h3' : p3 ≤ 5) :
    Calls Try.prog 96 #[.agg #[.int .i64 j, .int .i64 i, .int .i64 p2, .int .i64 p3], .pointer (some ⟨bx, 0, none⟩), .pointer (some ⟨br, 0, none⟩)] w fun e w' => e = .returned (.bool (!M.hldP xs r0 r1 ((j : Int), (i : Int), p2, p3))) ∧ Below w.heap.size w w' := by
  obtain ⟨wp, hwp⟩ : ∃ z, z = w.alloc (.cells #[.int .i64 j, .int .i64 i, .int .i64 p2, .int .i64 p3] 51) := ⟨_, rfl⟩
  have hbp : Below w.heap.size w wp := by rw [hwp]; exact b_alloc w _
  obtain ⟨ab, ao, u, rfl, hd, hu, cu⟩ := hI.at i hi
  obtain ⟨ab', ao', v, he, hd', hv, cv⟩ := hI.at j hj
  injection he with he
  injection he with e1 e2
  subst e1 e2
  have hfin : ∀ k, k < xn → -1000000 ≤ xs.getD k 0 ∧ xs.getD k 0 ≤ 1000000 := fun k hk => by
    have hkl : k < xs.length := by rw [hI.1]; exact hk
    have := List.all_eq_true.1 hf (xs.getD k 0) (by rw [List.getD_eq_getElem?_getD, List.getElem?_eq_getElem hkl]; exact List.getElem_mem hkl)
    simpa [M.isFin] using this
  have f1 := hfin i hi
  have f2 := hfin j hj
  have HV : Hid ((!M.hldP xs r0 r1 ((j : Int), (i : Int), p2, p3)) = decide (u < v + M.fExc r0 r1 ((j : Int), (i : Int), p2, p3))) := by
    show _ = _
    unfold M.hldP
    rw [Bool.not_not]
    show decide (xs.getD ((i : Int)).toNat 0 < xs.getD ((j : Int)).toNat 0 + _) = _
    rw [Int.toNat_natCast, Int.toNat_natCast, ← hu, ← hv]
  rw [← hu] at f1
  rw [← hv] at f2
  have HC : Hid (∀ W, Calls Try.prog 97 #[.agg #[.int .i64 r0, .int .i64 r1], .agg #[.int .i64 j, .int .i64 i, .int .i64 p2, .int .i64 p3]] W fun e w' => e = .returned (.int .i64 (M.fExc r0 r1 ((j : Int), (i : Int), p2, p3))) ∧ Below W.heap.size W w') := fun W => excessC r0 r1 _ _ p2 p3 W hr h2 h2' h3 h3'
  obtain ⟨a1, a2, a3, a4⟩ := M.exc_bd hr h2 h2' h3 h3'
  have hE : M.fExc r0 r1 ((j : Int), (i : Int), p2, p3) = r1 * p2 - r0 * p3 := rfl
  obtain ⟨E, hEe⟩ : ∃ E, E = M.fExc r0 r1 ((j : Int), (i : Int), p2, p3) := ⟨_, rfl⟩
  rw [← hEe] at HC HV hE
  rw [HV.out]
  have ew : IntKind.i64.wrap (v + E) = v + E := IntWalk.i64_in _ (by omega)
  have hin : (i : Int) < (xn : Int) := by omega
  have hjn : (j : Int) < (xn : Int) := by omega
  obtain ⟨x0, x1, x2⟩ := hX
  have HK : Hid (∀ W, Below wp.heap.size wp W → W.cell? ⟨bx, 0, none⟩ = some (.slice (some ⟨ab, ao, none⟩) xn xc) ∧ W.cell? ⟨br, 0, none⟩ = some (.int .i64 r0) ∧ W.cell? ⟨br, 1, none⟩ = some (.int .i64 r1) ∧ W.cell? ⟨w.heap.size, 0, none⟩ = some (.int .i64 j) ∧ W.cell? ⟨w.heap.size, 1, none⟩ = some (.int .i64 i) ∧ W.cell? ⟨w.heap.size, 2, none⟩ = some (.int .i64 p2) ∧ W.cell? ⟨w.heap.size, 3, none⟩ = some (.int .i64 p3) ∧ W.cell? ⟨ab, ao + i, none⟩ = some (.int .i64 u) ∧ W.cell? ⟨ab, ao + j, none⟩ = some (.int .i64 v) ∧ Below wp.heap.size wp W) := fun W hW => by
    have hWw : Below w.heap.size w W := hbp.trans (hW.mono hbp.size)
    have hz : w.heap.size < wp.heap.size := by rw [hwp]; simp
    refine ⟨(hWw.cell (cell_lt x0)).trans x0, (hWw.cell (cell_lt x1)).trans x1, (hWw.cell (cell_lt x2)).trans x2, ?_, ?_, ?_, ?_, (hWw.cell (cell_lt cu)).trans cu, (hWw.cell (cell_lt cv)).trans cv, hW⟩
    · exact (hW.cell (p := ⟨w.heap.size, 0, none⟩) hz).trans (by rw [hwp]; simp [go_sem])
    · exact (hW.cell (p := ⟨w.heap.size, 1, none⟩) hz).trans (by rw [hwp]; simp [go_sem])
    · exact (hW.cell (p := ⟨w.heap.size, 2, none⟩) hz).trans (by rw [hwp]; simp [go_sem])
    · exact (hW.cell (p := ⟨w.heap.size, 3, none⟩) hz).trans (by rw [hwp]; simp [go_sem])
  have HWp := Lib.hid hwp.symm
  have HBp := Lib.hid hbp
  clear hwp hbp hd hd' hu hv hfin hI hf hr hE hEe x0 x1 x2 cu cv HV a1 a2 a3 a4
  obtain ⟨k0, k1, k2, k3, k4, k5, k6, k7, k8, -⟩ := HK.out wp (Below.refl _ _)
  go_enter Try.func96, Try.ntmps96
  go_wp2
  rw [HWp.out]
  go_region_held3 (fun w' => w'.cell? ⟨bx, 0, none⟩ = some (.slice (some ⟨ab, ao, none⟩) xn xc) ∧ w'.cell? ⟨br, 0, none⟩ = some (.int .i64 r0) ∧ w'.cell? ⟨br, 1, none⟩ = some (.int .i64 r1) ∧ w'.cell? ⟨w.heap.size, 0, none⟩ = some (.int .i64 j) ∧ w'.cell? ⟨w.heap.size, 1, none⟩ = some (.int .i64 i) ∧ w'.cell? ⟨w.heap.size, 2, none⟩ = some (.int .i64 p2) ∧ w'.cell? ⟨w.heap.size, 3, none⟩ = some (.int .i64 p3) ∧ w'.cell? ⟨ab, ao + i, none⟩ = some (.int .i64 u) ∧ w'.cell? ⟨ab, ao + j, none⟩ = some (.int .i64 v) ∧ Below wp.heap.size wp w')
    (first | exact HK.out _ (Below.refl _ _).drew | exact HK.out _ ((Below.refl _ _).drew.trans hb))
    (first | (go_at_call 97; refine (HC.out _).mono ?_; rintro e w2 ⟨rfl, hb⟩))
  all_goals
    have HB2 := Lib.hid (HBp.out.trans (((Below.refl _ _).drew.trans hb).mono HBp.out.size))
    clear hb
    go_wp2
    go_ret
    exact ⟨rfl, HB2.out⟩
set_option maxRecDepth 100000 in
set_option maxHeartbeats 1000000 in
theorem indexMissedX (N : Nat) (bx br : Nat) (xa : Option Addr) (xc : Nat) (xs : List Int) (r0 r1 : Int) (a : Option Addr) (n cap : Nat) (l : List M.Pc) (w : World) (hX : XBox w bx br xa N xc r0 r1) (hxs : Ints .i64 w xa N xs) (hf : xs.all M.isFin = true) (hr : M.isRat r0 r1 = true) (hg : M.isGr (N : Int) l = true) (h : Pls w a n l) :
    Calls Try.prog 142 #[.slice a n cap, .func (.func 96) #[] #[.pointer (some ⟨bx, 0, none⟩), .pointer (some ⟨br, 0, none⟩)]] w fun e w' => Below w.heap.size w w' ∧
      ((e = .returned (.int .i64 (-1)) ∧ l.all (M.hldP xs r0 r1) = true) ∨ ∃ j : Nat, e = .returned (.int .i64 j) ∧ l.all (M.hldP xs r0 r1) = false) := by
  have HI := Lib.hid h
  have HL : Hid (l.length = n) := h.1
  have hm := h.2.1
  unfold maxLen at hm
  have HX := Lib.hid hX
  have HXs := Lib.hid hxs
  have HF := Lib.hid hf
  have HR := Lib.hid hr
  have HG := Lib.hid hg
  clear hX hxs hf hr hg
  clear h
  go_enter Try.func142, Try.ntmps142
  go_wp2
  go_loopw [5, 8] (fun _ iv wr => ∃ k : Nat, k ≤ n ∧ iv = .int .i64 k ∧ Hid (∀ j, j < k → (M.hldP xs r0 r1) (l.getD j M.pz) = true) ∧ Hid (Below w.heap.size w wr)) (fun _ iv _ => n - (intOf iv).toNat)
  case atStart => exact ⟨0, Nat.zero_le _, rfl, fun j hj => absurd hj (Nat.not_lt_zero j), Below.refl _ _⟩
  case round =>
    obtain ⟨k, hk, rfl, HA, HW⟩ := hrel
    by_cases hkl : k < n
    · have hki : (k : Int) < (n : Int) := by omega
      obtain ⟨b, off, p0, p1, p2, p3, rfl, -, hp, c0, c1, c2, c3⟩ := (HI.out.below HW.out).at k hkl
      obtain ⟨i, j, hi, hj, rfl, rfl, t2, t2', t3, t3'⟩ := gr_at HG.out (by rw [HL.out]; exact hkl) hp
      obtain ⟨t, ht⟩ : ∃ t, t = M.hldP xs r0 r1 ((j : Int), (i : Int), p2, p3) := ⟨_, rfl⟩
      have HT : Hid (M.hldP xs r0 r1 (l.getD k M.pz) = t) := by show _ = _; rw [hp, ht]
      have HCa : Hid (Calls Try.prog 96 #[.agg #[.int .i64 j, .int .i64 i, .int .i64 p2, .int .i64 p3], .pointer (some ⟨bx, 0, none⟩), .pointer (some ⟨br, 0, none⟩)] wr fun e w' => e = .returned (.bool (!t)) ∧ Below wr.heap.size wr w') := by show Calls _ _ _ _ _; rw [ht]; exact isMissedX bx br xa N xc xs r0 r1 i j p2 p3 wr (HX.out.below HW.out) (HXs.out.below HW.out) HF.out HR.out hi hj t2 t2' t3 t3'
      clear ht hp
      have HS := Lib.hid HW.out.size
      cases t with
      | true =>
        go_wp2_with (go_at_call 96; refine (HCa.out).mono ?_; rintro e w' ⟨rfl, hb'⟩)
        go_roundw
        case rel => exact ⟨k + 1, by omega, by go_num, fun i hi => by rcases Nat.lt_or_ge i k with q | q; exact HA.out i q; rw [show i = k by omega]; exact HT.out, HW.out.trans (hb'.mono HS.out)⟩
        case measure => simp [intOf]; omega
      | false =>
        go_wp2_with (go_at_call 96; refine (HCa.out).mono ?_; rintro e w' ⟨rfl, hb'⟩)
        go_ret
        refine ⟨HW.out.trans (hb'.mono HS.out), .inr ⟨k, rfl, ?_⟩⟩
        cases hq : l.all (M.hldP xs r0 r1) with
        | false => rfl
        | true =>
          have := List.all_eq_true.1 hq (l.getD k M.pz) (by
            have hh : k < l.length := by rw [HL.out]; exact hkl
            rw [List.getD_eq_getElem?_getD, List.getElem?_eq_getElem hh]; exact List.getElem_mem hh)
          rw [HT.out] at this; cases this
    · obtain rfl : k = n := by omega
      have HE : Hid (l.all (M.hldP xs r0 r1) = true) := List.all_eq_true.2 fun z hz => by
        obtain ⟨i, hi, rfl⟩ := List.mem_iff_getElem.1 hz
        have := HA.out i (by rw [← HL.out]; exact hi)
        rwa [List.getD_eq_getElem?_getD, List.getElem?_eq_getElem hi] at this
      go_wp2
      go_ret
      exact ⟨HW.out, .inl ⟨rfl, HE.out⟩⟩
set_option maxRecDepth 100000 in
set_option maxHeartbeats 1000000 in
theorem containsMissedX (N : Nat) (bx br : Nat) (xa : Option Addr) (xc : Nat) (xs : List Int) (r0 r1 : Int) (a : Option Addr) (n cap : Nat) (l : List M.Pc) (v : Bool) (hv : l.all (M.hldP xs r0 r1) = v) (w : World) (hX : XBox w bx br xa N xc r0 r1) (hxs : Ints .i64 w xa N xs) (hf : xs.all M.isFin = true) (hr : M.isRat r0 r1 = true) (hg : M.isGr (N : Int) l = true) (h : Pls w a n l) :
    Calls Try.prog 99 #[.slice a n cap, .func (.func 96) #[] #[.pointer (some ⟨bx, 0, none⟩), .pointer (some ⟨br, 0, none⟩)]] w fun e w' => e = .returned (.bool (!v)) ∧ Below w.heap.size w w' := by
  have HC := Lib.hid (indexMissedX N bx br xa xc xs r0 r1 a n cap l w hX hxs hf hr hg h)
  have HV := Lib.hid hv
  clear h hv
  go_enter Try.func99, Try.ntmps99
  go_wp2_with fail
  refine (HC.out).mono ?_
  rintro z w1 ⟨hb, ⟨rfl, hall⟩ | ⟨j, rfl, hall⟩⟩
  · rw [HV.out] at hall
    subst hall
    have HB := Lib.hid hb
    clear hb
    go_wp2
    go_ret
    exact ⟨rfl, HB.out⟩
  · rw [HV.out] at hall
    subst hall
    have hj0 : (0 : Int) ≤ (j : Int) := by omega
    have HB := Lib.hid hb
    clear hb
    go_wp2
    go_ret
    exact ⟨rfl, HB.out⟩
end V
end Go.Proofs.Ytlofnadpgnbmdaa

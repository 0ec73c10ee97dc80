/- Texts laid together: Plc. -/
import Derived.Test.YtlljnfljcdljaaaQa10
import Derived.StillTailTactics
set_option linter.unusedSimpArgs false
set_option linter.unusedVariables false
set_option linter.unusedSectionVars false
namespace Go.Proofs.Ytlljnfljcdljaaa
namespace M
theorem ply_any {l : List Int} {k : Nat} (hk : k < l.length) (h : l.getD k 0 ≠ -1000000000000000) : l.any (fun v => decide (v ≠ -1000000000000000)) = true := by
  rw [List.any_eq_true]
  refine ⟨l.getD k 0, ?_, by simpa using h⟩
  rw [List.getD_eq_getElem?_getD, List.getElem?_eq_getElem hk]; exact List.getElem_mem _
theorem ply_none {l : List Int} (h : ∀ k, k < l.length → l.getD k 0 = -1000000000000000) : l.any (fun v => decide (v ≠ -1000000000000000)) = false := by
  cases e : l.any (fun v => decide (v ≠ -1000000000000000)) with
  | false => rfl
  | true =>
    rw [List.any_eq_true] at e
    obtain ⟨x, hx, hp⟩ := e
    obtain ⟨i, hi, rfl⟩ := List.getElem_of_mem hx
    have := h i hi
    rw [List.getD_eq_getElem?_getD, List.getElem?_eq_getElem hi] at this
    simp at hp this
    exact absurd this hp
/-- A sum while the model makes it. -/
def addQ (c d : List Int) (k : Nat) : List Int := (List.range (max c.length k)).map fun i => max (gB c i) (if i < k then gB d i else -1000000000000000)
theorem addQ_len (c d : List Int) (k : Nat) : (addQ c d k).length = max c.length k := by simp [addQ]
theorem addQ_get {c d : List Int} {k i : Nat} (hi : i < max c.length k) : (addQ c d k).getD i 0 = max (gB c i) (if i < k then gB d i else -1000000000000000) := by simp [addQ, hi]
theorem low_poly {c : List Int} (h : isPoly c = true) : Low c := fun i hi => (isVal_bound ((isPoly_t h).2.2.1 i hi)).1
theorem addQ_zero {c d : List Int} (h : Low c) : addQ c d 0 = c := by
  refine list_ext2 (by rw [addQ_len]; omega) fun i hi => ?_
  rw [addQ_len] at hi
  rw [addQ_get hi, if_neg (Nat.not_lt_zero i), gB, if_pos (by omega)]
  have := h i (by omega)
  omega
theorem addQ_end (c d : List Int) : addQ c d d.length = addL c d := by
  unfold addQ addL
  refine List.map_congr_left fun i _ => ?_
  by_cases e : i < d.length
  · rw [if_pos e]
  · rw [if_neg e, gB, gB, if_neg e]
theorem addQ_snoc {c d : List Int} {k : Nat} (hk : c.length ≤ k) : addQ c d k ++ [-1000000000000000] = (List.range (k + 1)).map fun i => max (gB c i) (if i < k then gB d i else -1000000000000000) := by
  unfold addQ
  rw [List.range_succ, List.map_append, Nat.max_eq_right hk]
  simp only [List.map_cons, List.map_nil]
  rw [if_neg (Nat.lt_irrefl k), gB_ge hk]
  rfl
theorem addQ_set {c d : List Int} {k : Nat} (hc : Low c) (hk : k < d.length) : ((List.range (max c.length (k + 1))).map fun i => max (gB c i) (if i < k then gB d i else -1000000000000000)).set k (max (gB c k) (d.getD k 0)) = addQ c d (k + 1) := by
  unfold addQ
  rw [map_set]
  refine List.map_congr_left fun i hi => ?_
  by_cases e : i = k
  · subst e; rw [if_pos rfl, if_pos (Nat.lt_succ_self i)]; congr 1; exact (gB_lt hk).symm
  · rw [if_neg e]
    by_cases e2 : i < k
    · rw [if_pos e2, if_pos (by omega)]
    · rw [if_neg e2, if_neg (by omega)]
theorem addPRes_len (c d : List Int) : (addPRes c d).1.length ≤ 20 := by
  unfold addPRes
  cases h1 : isPoly c with
  | false => simp
  | true =>
    cases h2 : isPoly d with
    | false => simp
    | true =>
      have := (isPoly_t h1).2.1
      have := (isPoly_t h2).2.1
      simp only [Bool.and_self, if_true, addL_len]
      omega
end M
namespace V
set_option maxRecDepth 100000
open Go.RowKit
/-- A matrix of two rows that are not its own. -/
theorem mat_two (w : World) (a a' : Option Addr) (n n' cap cap' : Nat) (l l' : List Int) (h : Ints .i64 w a n l) (h' : Ints .i64 w a' n' l') : Mat (w.alloc (.cells #[.slice a n cap, .slice a' n' cap'] 24)) (some ⟨w.heap.size, 0, none⟩) 2 [l, l'] := by
  refine ⟨rfl, by decide, .inr ⟨_, _, rfl, by simp, fun i hi => ?_⟩⟩
  have hi2 : i = 0 ∨ i = 1 := by omega
  rcases hi2 with rfl | rfl
  · refine ⟨a, cap, ?_, ?_⟩
    · show _ = some (Value.slice a l.length cap)
      rw [h.1]; simp
    · show Ints _ _ _ l.length l
      rw [h.1]; exact h.below (b_alloc w _)
  · refine ⟨a', cap', ?_, ?_⟩
    · show _ = some (Value.slice a' l'.length cap')
      rw [h'.1]; simp
    · show Ints _ _ _ l'.length l'
      rw [h'.1]; exact h'.below (b_alloc w _)
set_option maxRecDepth 100000 in
set_option maxHeartbeats 1000000 in
theorem addPolynomials (a : Option Addr) (n cap : Nat) (l : List Int) (a' : Option Addr) (n' cap' : Nat) (l' : List Int) (w : World) (h : Ints .i64 w a n l) (h' : Ints .i64 w a' n' l') :
    Calls Try.prog 16 #[.slice a n cap, .slice a' n' cap'] w (VRes (M.addPRes l l') w) := by
  have HI := Lib.hid h
  have HI' := Lib.hid h'
  obtain ⟨v1, hv1⟩ : ∃ v, v = M.isPoly l := ⟨_, rfl⟩
  have HV1 := Lib.hid hv1.symm
  cases v1 with
  | false =>
    have HE : Hid (M.addPRes l l' = ([], 1)) := by show _ = _; unfold M.addPRes; rw [← hv1]; rfl
    clear h h' hv1
    go_enter Try.func16, Try.ntmps16
    go_wp2_with fail
    refine (isPolynomial_b _ _ _ l _ false HV1.out HI.out).mono ?_
    rintro e w' ⟨rfl, rfl⟩
    go_wp2
    go_ret2
    exact VRes.nil HE.out (Below.refl _ _)
  | true =>
    obtain ⟨v2, hv2⟩ : ∃ v, v = M.isPoly l' := ⟨_, rfl⟩
    have HV2 := Lib.hid hv2.symm
    cases v2 with
    | false =>
      have HE : Hid (M.addPRes l l' = ([], 1)) := by show _ = _; unfold M.addPRes; rw [← hv1, ← hv2]; rfl
      clear h h' hv1 hv2
      go_enter Try.func16, Try.ntmps16
      go_wp2_with fail
      refine (isPolynomial_b _ _ _ l _ true HV1.out HI.out).mono ?_
      rintro e w' ⟨rfl, rfl⟩
      go_wp2_with fail
      refine (isPolynomial_b _ _ _ l' _ false HV2.out HI'.out).mono ?_
      rintro e w' ⟨rfl, rfl⟩
      go_wp2
      go_ret2
      exact VRes.nil HE.out (Below.refl _ _)
    | true =>
      have HE : Hid (M.addPRes l l' = (M.addL l l', 0)) := by show _ = _; unfold M.addPRes; rw [← hv1, ← hv2]; rfl
      have HF : Hid ([l, l'].foldl M.addL [] = M.addL l l') := by
        show M.addL (M.addL [] l) l' = _
        have : M.addL [] l = l := by
          refine M.list_ext2 (by rw [M.addL_len]; simp) fun i hi => ?_
          rw [M.addL_len] at hi
          have hi2 : i < l.length := by simpa using hi
          rw [M.addL_get (by simpa using hi2), M.gB_lt hi2]
          have := M.low_poly hv1.symm i hi2
          show max (-1000000000000000) _ = _
          omega
        rw [this]
      have HS : Hid (M.Steps [l, l']) := by
        have h1 := (M.isPoly_t hv1.symm).2.1
        have h2 := (M.isPoly_t hv2.symm).2.1
        intro k hk
        have hk2 : k = 0 ∨ k = 1 := by simp at hk; omega
        rcases hk2 with rfl | rfl
        · exact ⟨by show l.length ≤ _; omega, by show l.length ≤ _; omega⟩
        · exact ⟨by show l'.length ≤ _; omega, by show l'.length ≤ _; omega⟩
      clear h h' hv1 hv2
      go_enter Try.func16, Try.ntmps16
      go_wp2_with fail
      refine (isPolynomial_b _ _ _ l _ true HV1.out HI.out).mono ?_
      rintro e w' ⟨rfl, rfl⟩
      go_wp2_with fail
      refine (isPolynomial_b _ _ _ l' _ true HV2.out HI'.out).mono ?_
      rintro e w' ⟨rfl, rfl⟩
      have HM := Lib.hid (mat_two w a a' n n' cap cap' l l' HI.out HI'.out)
      go_wp2_with fail
      refine (addedLists _ 2 _ [l, l'] _ HM.out (by omega) HS.out).mono ?_
      rintro e w1 ⟨b1, m1, c1, rfl, ho, hb⟩
      rw [HF.out] at ho
      have HO := Lib.hid (ho.mono (B' := w.heap.size) (by simp))
      have HB := Lib.hid (bel1 hb)
      clear ho hb
      go_wp2
      go_ret2
      rw [HE.out]
      exact ⟨_, _, _, rfl, HO.out, HB.out⟩
set_option maxRecDepth 100000 in
set_option maxHeartbeats 1000000 in
theorem sIsPolynomial (a : Option Addr) (n cap : Nat) (l : List Int) (w : World) (h : Ints .i64 w a n l) :
    Calls Try.prog 25 #[.slice a n cap] w fun e w' => e = .returned (.bool (M.isPoly l)) ∧ w = w' := by
  have HI := Lib.hid h
  have hl := h.1
  have hm := h.2.1
  unfold maxLen at hm
  have HL := Lib.hid hl
  by_cases h12 : 12 < n
  · have HE : Hid (M.isPoly l = false) := M.isPoly_long (by omega)
    have h13 : ¬ (n : Int) ≤ 12 := by omega
    have h14 : (n : Int) > 12 := by omega
    clear hl h
    go_enter Try.func25, Try.ntmps25
    go_wp2
    go_ret
    exact ⟨retB HE.out.symm, rfl⟩
  · have h13 : (n : Int) ≤ 12 := by omega
    have h14 : ¬ (n : Int) > 12 := by omega
    obtain ⟨v, hv⟩ : ∃ v, v = l.all M.isVal := ⟨_, rfl⟩
    have HV := Lib.hid hv
    cases v with
    | false =>
      have HE : Hid (M.isPoly l = false) := M.isPoly_val hv.symm
      clear hl hv h
      go_enter Try.func25, Try.ntmps25
      go_wp2_with fail
      refine (sAll _ _ _ l _ HI.out).mono ?_
      rintro e w' ⟨rfl, rfl⟩
      rw [← HV.out]
      go_wp2
      go_ret
      exact ⟨retB HE.out.symm, rfl⟩
    | true =>
      have HE : Hid (1 ≤ n → M.isPoly l = l.any (fun v => decide (v ≠ -1000000000000000))) := fun h1 => M.isPoly_rest (by omega) (by omega) hv.symm
      have H0 : Hid (n = 0 → M.isPoly l = false) := fun h0 => M.isPoly_len0 (by omega)
      clear hl hv h
      go_enter Try.func25, Try.ntmps25
      go_wp2_with fail
      refine (sAll _ _ _ l _ HI.out).mono ?_
      rintro e w' ⟨rfl, rfl⟩
      rw [← HV.out]
      go_wp2
      go_loop [3] (fun i => ∃ k : Nat, k ≤ n ∧ i = .int .i64 k ∧ Hid (∀ j, j < k → l.getD j 0 = -1000000000000000)) (fun i => n - (intOf i).toNat)
      case atStart => exact ⟨0, Nat.zero_le _, rfl, fun j hj => absurd hj (Nat.not_lt_zero j)⟩
      case round =>
        obtain ⟨k, hk, rfl, HA⟩ := hrel
        by_cases hlt : k < n
        · have hki : (k : Int) < (n : Int) := by omega
          obtain ⟨b, off, x, rfl, -, hx, hc⟩ := HI.out.at k hlt
          have HX := Lib.hid hx
          clear hx
          by_cases hB : x = -1000000000000000
          · subst hB
            go_wp2
            go_round
            case rel =>
              refine ⟨k + 1, by omega, by go_num, fun j hj => ?_⟩
              by_cases e : j = k
              · subst e; exact HX.out.symm
              · exact HA.out j (by omega)
            case measure => simp [intOf]; omega
          · have hne : (x != -1000000000000000) = true := by simpa using hB
            have hne2 : (x == -1000000000000000) = false := by simpa using hB
            go_wp2
            go_ret
            exact ⟨retB (by rw [HE.out (by omega)]; exact (M.ply_any (k := k) (by have := HL.out; omega) (by rw [← HX.out]; exact hB)).symm), rfl⟩
        · obtain rfl : k = n := by omega
          go_wp2
          go_ret
          refine ⟨retB ?_, rfl⟩
          by_cases h0 : k = 0
          · exact (H0.out h0).symm
          · rw [HE.out (by omega)]
            exact (M.ply_none fun j hj => HA.out j (by have := HL.out; omega)).symm
theorem sIsPolynomial_b (a : Option Addr) (n cap : Nat) (l : List Int) (w : World) (b : Bool) (hb : M.isPoly l = b) (h : Ints .i64 w a n l) :
    Calls Try.prog 25 #[.slice a n cap] w fun e w' => e = .returned (.bool b) ∧ w = w' := by
  subst hb
  exact sIsPolynomial _ _ _ _ _ h
theorem sIsPolynomialB (a : Option Addr) (n cap : Nat) (l : List Int) (w : World) (h : Ints .i64 w a n l) :
    Calls Try.prog 25 #[.slice a n cap] w fun e w' => e = .returned (.bool (M.isPoly l)) ∧ Below w.heap.size w w' := by
  refine (sIsPolynomial _ _ _ _ _ h).mono ?_
  rintro e w' ⟨rfl, rfl⟩
  exact ⟨rfl, Below.refl _ _⟩
set_option maxRecDepth 100000 in
set_option maxHeartbeats 2000000 in
theorem sAddPolynomials (a : Option Addr) (n cap : Nat) (l : List Int) (a' : Option Addr) (n' cap' : Nat) (l' : List Int) (w : World) (h : Ints .i64 w a n l) (h' : Ints .i64 w a' n' l') :
    Calls Try.prog 17 #[.slice a n cap, .slice a' n' cap'] w (VRes (M.addPRes l l') w) := by
  have HI := Lib.hid h
  have HI' := Lib.hid h'
  obtain ⟨v1, hv1⟩ : ∃ v, v = M.isPoly l := ⟨_, rfl⟩
  have HV1 := Lib.hid hv1.symm
  cases v1 with
  | false =>
    have HE : Hid (M.addPRes l l' = ([], 1)) := by show _ = _; unfold M.addPRes; rw [← hv1]; rfl
    clear h h' hv1
    go_enter Try.func17, Try.ntmps17
    go_wp2_with fail
    refine (sIsPolynomial_b _ _ _ l _ false HV1.out HI.out).mono ?_
    rintro e w' ⟨rfl, rfl⟩
    go_wp2
    go_ret2
    exact VRes.nil HE.out (Below.refl _ _)
  | true =>
    obtain ⟨v2, hv2⟩ : ∃ v, v = M.isPoly l' := ⟨_, rfl⟩
    have HV2 := Lib.hid hv2.symm
    cases v2 with
    | false =>
      have HE : Hid (M.addPRes l l' = ([], 1)) := by show _ = _; unfold M.addPRes; rw [← hv1, ← hv2]; rfl
      clear h h' hv1 hv2
      go_enter Try.func17, Try.ntmps17
      go_wp2_with fail
      refine (sIsPolynomial_b _ _ _ l _ true HV1.out HI.out).mono ?_
      rintro e w' ⟨rfl, rfl⟩
      go_wp2_with fail
      refine (sIsPolynomial_b _ _ _ l' _ false HV2.out HI'.out).mono ?_
      rintro e w' ⟨rfl, rfl⟩
      go_wp2
      go_ret2
      exact VRes.nil HE.out (Below.refl _ _)
    | true =>
      have HE : Hid (M.addPRes l l' = (M.addL l l', 0)) := by show _ = _; unfold M.addPRes; rw [← hv1, ← hv2]; rfl
      have n1 := (M.isPoly_t hv1.symm).1
      have n2 := (M.isPoly_t hv1.symm).2.1
      have n3 := (M.isPoly_t hv2.symm).2.1
      rw [h.1] at n1 n2
      rw [h'.1] at n3
      have HLow := Lib.hid (M.low_poly hv1.symm)
      have HL := Lib.hid h.1
      have HL' := Lib.hid h'.1
      have HQ0 : Hid (M.addQ l l' 0 = l) := M.addQ_zero HLow.out
      have HQe : Hid (M.addQ l l' n' = M.addL l l') := by show _ = _; rw [← h'.1]; exact M.addQ_end l l'
      clear h h' hv1 hv2
      go_enter Try.func17, Try.ntmps17
      go_wp2_with fail
      refine (sIsPolynomial_b _ _ _ l _ true HV1.out HI.out).mono ?_
      rintro e w' ⟨rfl, rfl⟩
      go_wp2_with fail
      refine (sIsPolynomial_b _ _ _ l' _ true HV2.out HI'.out).mono ?_
      rintro e w' ⟨rfl, rfl⟩
      go_wp2_with fail
      refine (sOwn _ _ _ l _ HI.out n1 (by omega)).mono ?_
      rintro e w1 ⟨b1, c1, rfl, ho, hb⟩
      have HO1 := Lib.hid ho
      have HB1 := Lib.hid hb
      clear ho hb
      go_wp2
      go_loopw [6, 7] (fun ov iv wr => ∃ (k m : Nat) (b : Option Addr) (c : Nat), k ≤ n' ∧ iv = .int .i64 k ∧ ov = .slice b m c ∧ m = max n k ∧ Hid (Own wr w.heap.size (.slice b m c) (M.addQ l l' k)) ∧ Hid (Below w.heap.size w wr)) (fun _ iv _ => n' - (intOf iv).toNat)
      case atStart => exact ⟨0, n, b1, c1, Nat.zero_le _, rfl, rfl, by omega, by show Own _ _ _ _; rw [HQ0.out]; exact HO1.out, HB1⟩
      case round =>
        obtain ⟨k, m, b, c, hk, rfl, rfl, hm, HO, HB⟩ := hrel
        have HM := Lib.hid hm
        by_cases hlt : k < n'
        · have hki : (k : Int) < (n' : Int) := by omega
          obtain ⟨ib, io, y, rfl, hib, hy, hcy⟩ := (HI'.out.below HB.out).at k hlt
          have HY := Lib.hid hy
          clear hy
          have hcase : (k = m ∧ n ≤ k) ∨ (k ≠ m ∧ k < n) := by omega
          rcases hcase with ⟨hkm, hnk⟩ | ⟨hkm, hkn⟩
          · subst hkm
            clear hm
            have HLn : Hid ((M.addQ l l' k).length = k) := by show _ = _; rw [M.addQ_len]; have := HL.out; omega
            go_wp2_with (at_builtin; refine append1 _ rfl (.tmp 28) (.tmp 29) rfl w.heap.size _ (M.addQ l l' k) (-1000000000000000) k HLn.out rfl HO.out rfl (by have := HLn.out; omega) HB.out.size ?_)
            intro b4 c4 w4 ho4 hb4 hg4
            have hs4 : M.addQ l l' k ++ [-1000000000000000] = (List.range (max l.length (k + 1))).map fun i => max (M.gB l i) (if i < k then M.gB l' i else -1000000000000000) := by
              rw [M.addQ_snoc (by have := HL.out; omega), Nat.max_eq_right (by have := HL.out; omega)]
            rw [hs4] at ho4
            have HO4 := Lib.hid ho4
            have HB4 := Lib.hid (HB.out.trans hb4)
            clear hs4 ho4 hb4 hg4 hcy
            obtain ⟨g, rfl, hg1, hg2⟩ := own_addr HO4.out (Nat.succ_pos k)
            obtain ⟨ib2, io2, y2, hbb, -, hy2, hcy⟩ := (HI'.out.below HB4.out).at k hlt
            injection hbb with hbb
            injection hbb with e1 e2
            subst e1 e2
            rw [← HY.out] at hy2
            subst hy2
            have hcz := HO4.out.cellAt k (Nat.lt_succ_self k)
            have hz : ((List.range (max l.length (k + 1))).map fun i => max (M.gB l i) (if i < k then M.gB l' i else -1000000000000000)).getD k 0 = -1000000000000000 := by
              have hlk : k < max l.length (k + 1) := by omega
              simp only [List.getD_eq_getElem?_getD, List.getElem?_map, List.getElem?_range hlk, Option.map_some, Option.getD_some]
              rw [if_neg (Nat.lt_irrefl k), M.gB_ge (by have := HL.out; omega)]; rfl
            rw [hz] at hcz
            have hfz := HO4.out.frozenAt k
            have hN := Own.set HO4.out k (max (M.gB l k) y2)
            rw [HY.out, M.addQ_set HLow.out (by have := HL'.out; omega), ← HY.out, M.gB_ge (show l.length ≤ k by have := HL.out; omega), M.ifmax] at hN
            have HN := Lib.hid hN
            have HBn := Lib.hid (HB4.out.drew.setCell (p := ⟨g, k, none⟩) hg1 (.int .i64 (if -1000000000000000 < y2 then y2 else -1000000000000000)))
            have hk1 : (k : Int) < ((k + 1 : Nat) : Int) := by omega
            have hk2 : (k : Int) < (k : Int) + 1 := by omega
            have hk3 : k < k + 1 := Nat.lt_succ_self k
            clear hz hN hg1 hg2
            go_wp2
            go_still_tail 12, (by kernel_rfl)
            change wpList _ _ _ _ _ w4.drew
            go_wp2
            first
              | exact ⟨⟨k + 1, k + 1, _, _, by omega, by go_num, rfl, by have := HM.out; omega, HN.out.keep (fun _ _ _ => rfl), HBn⟩, by simp [intOf]; omega⟩
              | (go_roundw
                 case rel => exact ⟨k + 1, k + 1, _, _, by omega, by go_num, rfl, by have := HM.out; omega, HN.out.keep (fun _ _ _ => rfl), HBn⟩
                 case measure => simp [intOf]; omega)
          · have hm2 : m = n := by omega
            subst hm2
            clear hm HM
            have hkmi : ¬ (k : Int) = (m : Int) := by omega
            have hkni : (k : Int) < (m : Int) := by omega
            obtain ⟨g, rfl, hg1, hg2⟩ := own_addr HO.out (by omega)
            have hcz := HO.out.cellAt k hkn
            have hfz := HO.out.frozenAt k
            have hz : (M.addQ l l' k).getD k 0 = l.getD k 0 := by
              rw [M.addQ_get (by have := HL.out; omega), if_neg (Nat.lt_irrefl k), M.gB_lt (by have := HL.out; omega)]
              have := HLow.out k (by have := HL.out; omega)
              omega
            rw [hz] at hcz
            obtain ⟨x, hx⟩ : ∃ x, x = l.getD k 0 := ⟨_, rfl⟩
            rw [← hx] at hcz
            have hQ : M.addQ l l' k = (List.range (max l.length (k + 1))).map fun i => max (M.gB l i) (if i < k then M.gB l' i else -1000000000000000) := by
              unfold M.addQ
              rw [show max l.length k = max l.length (k + 1) by have := HL.out; omega]
            have hN := Own.set HO.out k (max (M.gB l k) y)
            rw [hQ, HY.out, M.addQ_set HLow.out (by have := HL'.out; omega), ← HY.out, M.gB_lt (show k < l.length by have := HL.out; omega), ← hx, M.ifmax] at hN
            have HN := Lib.hid hN
            have HBn := Lib.hid (HB.out.drew.setCell (p := ⟨g, k, none⟩) hg1 (.int .i64 (if x < y then y else x)))
            clear hz hN hg1 hg2 hQ hx
            go_wp2
            go_still_tail 12, (by kernel_rfl)
            change wpList _ _ _ _ _ wr.drew
            go_wp2
            first
              | exact ⟨⟨k + 1, m, _, _, by omega, by go_num, rfl, by omega, HN.out.keep (fun _ _ _ => rfl), HBn⟩, by simp [intOf]; omega⟩
              | (go_roundw
                 case rel => exact ⟨k + 1, m, _, _, by omega, by go_num, rfl, by omega, HN.out.keep (fun _ _ _ => rfl), HBn⟩
                 case measure => simp [intOf]; omega)
        · obtain rfl : k = n' := by omega
          go_wp2
          go_ret2
          rw [HE.out]
          exact ⟨_, _, _, rfl, by have := HO.out; rw [HQe.out] at this; exact this, HB.out⟩
end V
end Go.Proofs.Ytlljnfljcdljaaa

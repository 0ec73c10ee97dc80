/- Texts laid together: Shv. -/
import Derived.Test.YtjljplolonpldaaQa2
import Derived.Test.YtjljplolonpldaaQa5
set_option linter.unusedSimpArgs false
set_option linter.unusedVariables false
set_option linter.unusedSectionVars false
namespace Go.Proofs.Ytjljplolonpldaa.V
set_option maxRecDepth 100000
open Go.RowKit
/-- A number that is so small that no sum of two overflows. -/
def Wid (v : Int) : Prop := -2000000000000000 ≤ v ∧ v ≤ 2000000000000000
theorem wid_val {v : Int} (h : M.isVal v = true) : Wid v := by have := M.isVal_t h; unfold Wid; omega
set_option maxRecDepth 100000 in
set_option maxHeartbeats 400000 in
theorem timesW (a b : Int) (w : World) (ha : Wid a) (hb : Wid b) : Calls Try.prog 84 #[.int .i64 a, .int .i64 b] w fun e w' => e = .returned (.int .i64 (M.times a b)) ∧ w = w' := by
  obtain ⟨ba1, ba2⟩ := ha
  obtain ⟨bb1, bb2⟩ := hb
  by_cases h : a = -1000000000000000
  · subst h
    go_enter Try.func84, Try.ntmps84
    go_wp2
    all_goals go_ret; exact ⟨retI (by simp [M.times]), rfl⟩
  · have h' : (a == -1000000000000000) = false := by simpa using h
    by_cases h2 : b = -1000000000000000
    · subst h2
      go_enter Try.func84, Try.ntmps84
      go_wp2
      all_goals go_ret; exact ⟨retI (by simp [M.times]), rfl⟩
    · have h2' : (b == -1000000000000000) = false := by simpa using h2
      go_enter Try.func84, Try.ntmps84
      go_wp2
      all_goals go_ret; exact ⟨retI (by simp [M.times, h, h2]), rfl⟩
set_option maxRecDepth 100000 in
set_option maxHeartbeats 400000 in
theorem sTimesW (a b : Int) (w : World) (ha : Wid a) (hb : Wid b) : Calls Try.prog 78 #[.int .i64 a, .int .i64 b] w fun e w' => e = .returned (.int .i64 (M.times a b)) ∧ w = w' := by
  obtain ⟨ba1, ba2⟩ := ha
  obtain ⟨bb1, bb2⟩ := hb
  by_cases h : a = -1000000000000000
  · subst h
    go_enter Try.func78, Try.ntmps78
    go_wp2
    all_goals go_ret; exact ⟨retI (by simp [M.times]), rfl⟩
  · have h' : (a == -1000000000000000) = false := by simpa using h
    by_cases h2 : b = -1000000000000000
    · subst h2
      go_enter Try.func78, Try.ntmps78
      go_wp2
      all_goals go_ret; exact ⟨retI (by simp [M.times]), rfl⟩
    · have h2' : (b == -1000000000000000) = false := by simpa using h2
      go_enter Try.func78, Try.ntmps78
      go_wp2
      all_goals go_ret; exact ⟨retI (by simp [M.times, h, h2]), rfl⟩
/-- The first k elements of a list of n that is being filled. -/
def vPart (n : Nat) (f : Nat → Int) (k : Nat) : List Int := (List.range n).map fun j => if j < k then f j else 0
theorem vPart_zero (n : Nat) (f : Nat → Int) : vPart n f 0 = (List.range n).map fun _ => 0 := by simp [vPart]
theorem vPart_end (n : Nat) (f : Nat → Int) : vPart n f n = (List.range n).map f := List.map_congr_left fun j hj => by simp [List.mem_range.1 hj]
theorem vPart_set (n : Nat) (f : Nat → Int) (k : Nat) : (vPart n f k).set k (f k) = vPart n f (k + 1) := by
  unfold vPart
  rw [M.map_set]
  refine List.map_congr_left fun j _ => ?_
  by_cases e : j = k
  · subst e; rw [if_pos rfl, if_pos (by omega)]
  · rw [if_neg e]
    by_cases e2 : j < k
    · rw [if_pos e2, if_pos (by omega)]
    · rw [if_neg e2, if_neg (by omega)]
theorem shv_map (l : List Int) (g : Int) : M.shvL l g = (List.range l.length).map fun j => M.times (l.getD j 0) g := by
  refine M.list_ext0 (by rw [M.shv_len]; simp) fun i hi => ?_
  rw [M.shv_len] at hi
  rw [M.shv_get hi]
  simp [hi]
set_option maxRecDepth 100000 in
set_option maxHeartbeats 400000 in
theorem clTimesW (a b : Int) (w : World) (ha : Wid a) (hb : Wid b) : Calls Try.prog 138 #[.int .i64 a, .int .i64 b] w fun e w' => e = .returned (.int .i64 (M.times a b)) ∧ w = w' := by
  have HA := Lib.hid ha
  have HB := Lib.hid hb
  clear ha hb
  go_enter Try.func138, Try.ntmps138
  go_wp2_with (first | (go_at_call 84; refine (timesW _ _ _ HA.out HB.out).mono ?_; rintro e w' ⟨rfl, rfl⟩))
  go_ret
  exact ⟨rfl, rfl⟩
theorem fld1 : ∀ w : World, (Instr.field 122 (.agg #[.func (.func 137) #[] #[], .func (.func 138) #[] #[]]) 1).run Try.prog w = .ok (.func (.func 138) #[] #[]) w := fun w => by simp [Instr.field, part, asAgg, go_sem]
set_option maxRecDepth 100000 in
set_option maxHeartbeats 4000000 in
theorem shiftedList (a : Option Addr) (n cap : Nat) (l : List Int) (g : Int) (w : World) (h : Ints .i64 w a n l) (hn : n ≤ 1000) (hl : ∀ k, k < n → Wid (l.getD k 0)) (hg : Wid g) :
    Calls Try.prog 104 #[.slice a n cap, .int .i64 g] w fun e w' => ∃ b, e = .returned (.slice b n n) ∧ Own w' w.heap.size (.slice b n n) (M.shvL l g) ∧ Below w.heap.size w w' := by
  have HI := Lib.hid h
  have HL := Lib.hid hl
  have HG := Lib.hid hg
  have HE : Hid (M.shvL l g = (List.range n).map fun j => M.times (l.getD j 0) g) := by show _ = _; rw [shv_map, h.1]
  have hmk := run_make_row' (P := Try.prog) 29 2 (.int .i64 0) 8 Try.underlying29 info64 rfl .i64 .i64 n (by omega) (by omega)
  have hfld := fld1
  clear h hl hg
  go_enter Try.func104, Try.ntmps104
  go_wp2_with fail
  refine (maxPlus _).mono ?_
  rintro e w1 ⟨rfl, hb1⟩
  have HB1 := Lib.hid hb1
  have hz1 : w.heap.size ≤ w1.heap.size := hb1.size
  clear hb1
  go_wp2
  clear hmk hfld
  go_loopw [7, 8, 16] (fun _ _ i wr => ∃ k : Nat, k ≤ n ∧ i = .int .i64 k ∧ Own wr w1.heap.size (.slice (some ⟨w1.heap.size, 0, none⟩) n n) (vPart n (fun j => M.times (l.getD j 0) g) k) ∧ Below w1.heap.size w1 wr) (fun _ _ i _ => n - (intOf i).toNat)
  case atStart => exact ⟨0, Nat.zero_le _, rfl, by rw [vPart_zero]; exact own_made w1 _ n (Nat.le_refl _) (by unfold maxLen; omega), b_alloc _ _⟩
  case round =>
    obtain ⟨k, hk, rfl, hO, hb⟩ := hrel
    have HO := Lib.hid hO
    have HB := Lib.hid hb
    clear hO hb
    by_cases hlt : k < n
    · have hki : (k : Int) < (n : Int) := by omega
      obtain ⟨b, off, x, rfl, -, hx, hc⟩ := ((HI.out.below HB1.out).below HB.out).at k hlt
      have hWx := HL.out k hlt
      rw [← hx] at hWx
      have HW := Lib.hid hWx
      obtain ⟨v, hst⟩ : ∃ v, wr.cell? ⟨w1.heap.size, k, none⟩ = some v := ⟨_, HO.out.cellAt k hlt⟩
      have hfz := HO.out.frozenAt k
      have HN : Hid (Own (wr.setCell ⟨w1.heap.size, k, none⟩ (.int .i64 (M.times x g))) w1.heap.size (.slice (some ⟨w1.heap.size, 0, none⟩) n n) (vPart n (fun j => M.times (l.getD j 0) g) (k + 1))) := by
        show Own _ _ _ _
        have := Own.set HO.out k (M.times x g)
        rw [hx, vPart_set n (fun j => M.times (l.getD j 0) g) k, ← hx] at this
        exact this
      clear hx hWx HO
      go_wp2_with (go_at_call 138; refine (clTimesW _ _ _ HW.out HG.out).mono ?_; rintro e w' ⟨rfl, rfl⟩)
      go_roundw
      case rel => exact ⟨k + 1, by omega, by go_num, HN.out, HB.out.setCell (Nat.le_refl _) _⟩
      case measure => simp [intOf]; omega
    · obtain rfl : k = n := by omega
      go_wp2
      go_ret
      exact ⟨_, rfl, by rw [HE.out, ← vPart_end]; exact HO.out.mono hz1, HB1.out.trans (HB.out.mono hz1)⟩
set_option maxRecDepth 100000 in
set_option maxHeartbeats 4000000 in
theorem sShift7 (a : Option Addr) (n cap : Nat) (l : List Int) (g : Int) (w : World) (h : Ints .i64 w a n l) (hn : n ≤ 1000) (hl : ∀ k, k < n → Wid (l.getD k 0)) (hg : Wid g) :
    Calls Try.prog 89 #[.slice a n cap, .int .i64 g] w fun e w' => ∃ b c, e = .returned (.slice b n c) ∧ Own w' w.heap.size (.slice b n c) (M.shvL l g) ∧ Below w.heap.size w w' := by
  have HI := Lib.hid h
  have HL := Lib.hid hl
  have HG := Lib.hid hg
  have HLl : Hid ((M.shvL l g).length = n) := by show _ = _; rw [M.shv_len, h.1]
  have HT : Hid (∀ k, k < n → (M.shvL l g).take (k + 1) = (M.shvL l g).take k ++ [M.times (l.getD k 0) g]) := fun k hk => M.shv_take (by rw [h.1]; exact hk)
  clear h hl hg
  generalize hS : M.shvL l g = S at *
  have HS := Lib.hid hS
  clear hS
  go_enter Try.func89, Try.ntmps89
  go_wp2
  go_loopw [5, 6] (fun ov kv wr => ∃ (k : Nat) (b : Option Addr) (c : Nat), k ≤ n ∧ kv = .int .i64 k ∧ ov = .slice b k c ∧ Hid (Own wr w.heap.size (.slice b k c) (S.take k)) ∧ Hid (Below w.heap.size w wr)) (fun _ kv _ => n - (intOf kv).toNat)
  case atStart => exact ⟨0, _, _, Nat.zero_le _, rfl, rfl, own_lit0 w _ (Nat.le_refl _), b_alloc _ _⟩
  case round =>
    obtain ⟨k, b, c, hk, rfl, rfl, HO, HB⟩ := hrel
    by_cases hlt : k < n
    · have hki : (k : Int) < (n : Int) := by omega
      obtain ⟨ib, io, x, rfl, -, hx, hc⟩ := (HI.out.below HB.out).at k hlt
      have hWx := HL.out k hlt
      have hT := HT.out k hlt
      rw [← hx] at hWx hT
      have HW := Lib.hid hWx
      have HT2 := Lib.hid hT
      have hlen : (S.take k).length = k := by rw [List.length_take]; have := HLl.out; omega
      have HLen := Lib.hid hlen
      clear hx hWx hT hlen
      generalize S.take k = Sk at *
      go_wp2_with (first | (go_at_call 78; refine (sTimesW _ _ _ HW.out HG.out).mono ?_; rintro e w' ⟨rfl, rfl⟩) | (at_builtin; refine append1 _ rfl (.tmp 14) (.tmp 21) rfl w.heap.size _ Sk (M.times x g) k HLen.out rfl HO.out rfl (by have := HLen.out; omega) HB.out.size ?_))
      intro b4 c4 w4 hO4 hb4 _
      have HO4 := Lib.hid hO4
      have HB4 := Lib.hid (HB.out.trans hb4)
      clear hO4 hb4
      go_wp2
      go_roundw
      case rel => exact ⟨k + 1, b4, c4, by omega, by go_num, rfl, by show Own _ _ _ _; rw [HT2.out]; exact HO4.out, HB4⟩
      case measure => simp [intOf]; omega
    · obtain rfl : k = n := by omega
      have HTa : Hid (S.take k = S) := List.take_of_length_le (by have := HLl.out; omega)
      go_wp2
      go_ret
      exact ⟨_, _, rfl, by have := HO.out; rw [HTa.out] at this; exact this, HB.out⟩
set_option maxRecDepth 100000 in
set_option maxHeartbeats 400000 in
theorem shiftVector (a : Option Addr) (n cap : Nat) (l : List Int) (g : Int) (w : World) (h : Ints .i64 w a n l) :
    Calls Try.prog 33 #[.slice a n cap, .int .i64 g] w (VRes (M.shvRes l g) w) := by
  have HI := Lib.hid h
  obtain ⟨v1, hv1⟩ : ∃ v, v = M.isVec l := ⟨_, rfl⟩
  have HV1 := Lib.hid hv1.symm
  cases v1 with
  | false =>
    have HE : Hid (M.shvRes l g = ([], 1)) := by show _ = _; unfold M.shvRes; rw [← hv1]; rfl
    clear h hv1
    go_enter Try.func33, Try.ntmps33
    go_wp2_with fail
    refine (isVector_b _ _ _ l _ false HV1.out HI.out).mono ?_
    rintro e w' ⟨rfl, rfl⟩
    go_wp2
    go_ret2
    exact VRes.nil HE.out (Below.refl _ _)
  | true =>
    obtain ⟨-, n2⟩ := ints_vec h hv1.symm
    have HW : Hid (∀ k, k < n → Wid (l.getD k 0)) := fun k hk => wid_val ((M.isVec_t hv1.symm).2.2 k (by rw [h.1]; exact hk))
    obtain ⟨v2, hv2⟩ : ∃ v, v = M.isFin g := ⟨_, rfl⟩
    have HC : Hid (∀ w, Calls Try.prog 103 #[.int .i64 g] w fun e w' => e = .returned (.bool v2) ∧ w = w') := fun w => by rw [hv2]; exact isFinite g w
    cases v2 with
    | false =>
      have HE : Hid (M.shvRes l g = ([], 2)) := by show _ = _; unfold M.shvRes; rw [← hv1, ← hv2]; rfl
      clear h hv1 hv2
      go_enter Try.func33, Try.ntmps33
      go_wp2_with fail
      refine (isVector_b _ _ _ l _ true HV1.out HI.out).mono ?_
      rintro e w' ⟨rfl, rfl⟩
      go_wp2_with fail
      refine (HC.out _).mono ?_
      rintro e w' ⟨rfl, rfl⟩
      go_wp2
      go_ret2
      exact VRes.nil HE.out (Below.refl _ _)
    | true =>
      have HG : Hid (Wid g) := by
        have : M.isFin g = true := hv2.symm
        unfold M.isFin at this
        simp at this
        exact ⟨by omega, by omega⟩
      obtain ⟨v3, hv3⟩ : ∃ v, v = M.isVec (M.shvL l g) := ⟨_, rfl⟩
      have HV3 := Lib.hid hv3.symm
      have HE : Hid (M.shvRes l g = if v3 then (M.shvL l g, 0) else ([], 3)) := by show _ = _; unfold M.shvRes; rw [← hv1, ← hv2, hv3]; rfl
      clear h hv1 hv2 hv3
      go_enter Try.func33, Try.ntmps33
      go_wp2_with fail
      refine (isVector_b _ _ _ l _ true HV1.out HI.out).mono ?_
      rintro e w' ⟨rfl, rfl⟩
      go_wp2_with fail
      refine (HC.out _).mono ?_
      rintro e w' ⟨rfl, rfl⟩
      go_wp2_with fail
      refine (shiftedList _ _ _ l g _ HI.out (by omega) HW.out HG.out).mono ?_
      rintro e w1 ⟨b1, rfl, ho, hb⟩
      have HO := Lib.hid ho
      have HB := Lib.hid hb
      clear ho hb
      cases v3 with
      | false =>
        go_wp2_with fail
        refine (checkedVector_f _ _ _ (M.shvL l g) _ HV3.out HO.out.ints').mono ?_
        rintro e w' ⟨rfl, rfl⟩
        go_wp2
        go_ret2
        exact VRes.nil HE.out HB.out
      | true =>
        go_wp2_with fail
        refine (checkedVector_t _ _ _ (M.shvL l g) _ HV3.out HO.out.ints').mono ?_
        rintro e w' ⟨rfl, rfl⟩
        go_wp2
        go_ret2
        rw [HE.out]
        exact ⟨_, _, _, rfl, HO.out, HB.out⟩
set_option maxRecDepth 100000 in
set_option maxHeartbeats 400000 in
theorem sShiftVector (a : Option Addr) (n cap : Nat) (l : List Int) (g : Int) (w : World) (h : Ints .i64 w a n l) :
    Calls Try.prog 34 #[.slice a n cap, .int .i64 g] w (VRes (M.shvRes l g) w) := by
  have HI := Lib.hid h
  obtain ⟨v1, hv1⟩ : ∃ v, v = M.isVec l := ⟨_, rfl⟩
  have HV1 := Lib.hid hv1.symm
  cases v1 with
  | false =>
    have HE : Hid (M.shvRes l g = ([], 1)) := by show _ = _; unfold M.shvRes; rw [← hv1]; rfl
    clear h hv1
    go_enter Try.func34, Try.ntmps34
    go_wp2_with fail
    refine (sVector_b _ _ _ l _ false HV1.out HI.out).mono ?_
    rintro e w' ⟨rfl, rfl⟩
    go_wp2
    go_ret2
    exact VRes.nil HE.out (Below.refl _ _)
  | true =>
    obtain ⟨-, n2⟩ := ints_vec h hv1.symm
    have HW : Hid (∀ k, k < n → Wid (l.getD k 0)) := fun k hk => wid_val ((M.isVec_t hv1.symm).2.2 k (by rw [h.1]; exact hk))
    obtain ⟨v2, hv2⟩ : ∃ v, v = M.isFin g := ⟨_, rfl⟩
    have HC : Hid (∀ w, Calls Try.prog 105 #[.int .i64 g] w fun e w' => e = .returned (.bool v2) ∧ w = w') := fun w => by rw [hv2]; exact sFinite g w
    cases v2 with
    | false =>
      have HE : Hid (M.shvRes l g = ([], 2)) := by show _ = _; unfold M.shvRes; rw [← hv1, ← hv2]; rfl
      clear h hv1 hv2
      go_enter Try.func34, Try.ntmps34
      go_wp2_with fail
      refine (sVector_b _ _ _ l _ true HV1.out HI.out).mono ?_
      rintro e w' ⟨rfl, rfl⟩
      go_wp2_with fail
      refine (HC.out _).mono ?_
      rintro e w' ⟨rfl, rfl⟩
      go_wp2
      go_ret2
      exact VRes.nil HE.out (Below.refl _ _)
    | true =>
      have HG : Hid (Wid g) := by
        have : M.isFin g = true := hv2.symm
        unfold M.isFin at this
        simp at this
        exact ⟨by omega, by omega⟩
      obtain ⟨v3, hv3⟩ : ∃ v, v = M.isVec (M.shvL l g) := ⟨_, rfl⟩
      have HV3 := Lib.hid hv3.symm
      have HE : Hid (M.shvRes l g = if v3 then (M.shvL l g, 0) else ([], 3)) := by show _ = _; unfold M.shvRes; rw [← hv1, ← hv2, hv3]; rfl
      clear h hv1 hv2 hv3
      go_enter Try.func34, Try.ntmps34
      go_wp2_with fail
      refine (sVector_b _ _ _ l _ true HV1.out HI.out).mono ?_
      rintro e w' ⟨rfl, rfl⟩
      go_wp2_with fail
      refine (HC.out _).mono ?_
      rintro e w' ⟨rfl, rfl⟩
      go_wp2_with fail
      refine (sShift7 _ _ _ l g _ HI.out (by omega) HW.out HG.out).mono ?_
      rintro e w1 ⟨b1, c1, rfl, ho, hb⟩
      have HO := Lib.hid ho
      have HB := Lib.hid hb
      clear ho hb
      cases v3 with
      | false =>
        go_wp2_with fail
        refine (sVector_b _ _ _ (M.shvL l g) _ false HV3.out HO.out.ints').mono ?_
        rintro e w' ⟨rfl, rfl⟩
        go_wp2
        go_ret2
        exact VRes.nil HE.out HB.out
      | true =>
        go_wp2_with fail
        refine (sVector_b _ _ _ (M.shvL l g) _ true HV3.out HO.out.ints').mono ?_
        rintro e w' ⟨rfl, rfl⟩
        go_wp2
        go_ret2
        rw [HE.out]
        exact ⟨_, _, _, rfl, HO.out, HB.out⟩
end Go.Proofs.Ytjljplolonpldaa.V

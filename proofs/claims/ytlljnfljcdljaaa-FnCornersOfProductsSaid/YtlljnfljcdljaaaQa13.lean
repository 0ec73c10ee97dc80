/- Texts laid together: Pew. -/
import Derived.Test.YtlljnfljcdljaaaQa12
import Derived.Test.YtlljnfljcdljaaaQa7
set_option linter.unusedSimpArgs false
set_option linter.unusedVariables false
set_option linter.unusedSectionVars false
namespace Go.Proofs.Ytlljnfljcdljaaa
namespace V
set_option maxRecDepth 100000
open Go Go.RowKit Go.Shelf
attribute [local go_sem] Oper.semAt_some
theorem backward (a : Option Addr) (n cap : Nat) (w : World) :
    Calls Try.prog 61 #[.slice a n cap] w fun e w' => e = .returned (.func (.func 89) #[] #[.pointer (some ⟨w.heap.size, 0, none⟩)]) ∧ w' = w.alloc (.cells #[.slice a n cap] 24) := by
  go_enter Try.func61, Try.ntmps61
  go_wp2
  go_ret
  exact ⟨rfl, rfl⟩
set_option maxRecDepth 100000 in
set_option maxHeartbeats 4000000 in
theorem evaluate_ok (a : Option Addr) (n cap : Nat) (l : List Int) (x : Int) (w : World) (h : Ints .i64 w a n l) (hp : M.isPoly l = true) (hx : M.isVal x = true) :
    Calls Try.prog 21 #[.slice a n cap, .int .i64 x] w fun e w' => e = .returned (.tuple #[.int .i64 (M.chk (M.evalV l x)).1, .int .i64 (M.chk (M.evalV l x)).2]) ∧ Below w.heap.size w w' := by
  have HP := Lib.hid hp
  have HX := Lib.hid hx
  obtain ⟨p1, p2, p3, -⟩ := M.isPoly_t hp
  rw [h.1] at p1 p2
  have HV : Hid (∀ i, i < n → M.isVal (l.getD i 0) = true) := fun i hi => p3 i (by rw [h.1]; exact hi)
  have HL := Lib.hid h.1
  have HH : Hid (M.hzL x (M.upto l n n) = M.evalV l x) := by
    show _ = _
    rw [← M.horner_eq hp hx, ← h.1, M.hz_horner x p3 _ (Nat.le_refl _), Nat.sub_self, List.drop_zero]
  obtain ⟨b, off, rfl, hb, hc⟩ : ∃ b off, a = some ⟨b, off, none⟩ ∧ b < w.heap.size ∧ ∀ i, i < n → w.cell? ⟨b, off + i, none⟩ = some (.int .i64 (l.getD i 0)) := by
    rcases h.2.2 with e | e
    · omega
    · exact e
  have HI := Lib.hid (h.below (b_alloc w (.cells #[.int .i64 x] 2)))
  have HC := Lib.hid hc
  clear h hp hx p3 hc
  refine callsIn_wide.1 (callsIn_of_wp_marks (n := 4) Try.func21 rfl trivial (wpIn_wide.2 ?_) rfl)
  simp only [Try.ntmps21, List.size_toArray, List.length_cons, List.length_nil, Nat.reduceAdd, Nat.reduceSub, Array.replicate_succ, Array.replicate_zero, List.push_toArray, List.append_toArray, List.nil_append, List.cons_append]
  go_wp2_with fail
  refine (isPolynomial_b _ _ _ l _ true HP.out HI.out).mono ?_
  rintro e w' ⟨rfl, rfl⟩
  go_wp2_with fail
  refine (isValue x _).mono ?_
  rintro e w' ⟨rfl, rfl⟩
  rw [HX.out]
  go_wp2_with fail
  refine (backward _ _ _ _).mono ?_
  rintro e w' ⟨rfl, rfl⟩
  go_wp2
  have bX := Go.Boxed.new w 2 (.int .i64 x)
  have bS := Go.Boxed.new (w.alloc (.cells #[.int .i64 x] 2)) 66 (.int .i64 (-1000000000000000))
  have bN := Go.Boxed.new ((w.alloc (.cells #[.int .i64 x] 2)).alloc (.cells #[.int .i64 (-1000000000000000)] 66)) 24 (.slice (some ⟨b, off, none⟩) n cap)
  have bX2 := (bX.alloc (.cells #[.int .i64 (-1000000000000000)] 66)).alloc (.cells #[.slice (some ⟨b, off, none⟩) n cap] 24)
  have bS2 := bS.alloc (.cells #[.slice (some ⟨b, off, none⟩) n cap] 24)
  have hB0 : Below w.heap.size w (((w.alloc (.cells #[.int .i64 x] 2)).alloc (.cells #[.int .i64 (-1000000000000000)] 66)).alloc (.cells #[.slice (some ⟨b, off, none⟩) n cap] 24)) := (((Below.refl _ w).alloc (Nat.le_refl _) _).alloc (by simp) _).alloc (by simp; omega) _
  have hsz : (((w.alloc (.cells #[.int .i64 x] 2)).alloc (.cells #[.int .i64 (-1000000000000000)] 66)).alloc (.cells #[.slice (some ⟨b, off, none⟩) n cap] 24)).heap.size = w.heap.size + 3 := by simp
  rw [World.size_alloc, World.size_alloc] at bN
  rw [World.size_alloc] at bS2
  clear bX bS
  generalize (((w.alloc (.cells #[.int .i64 x] 2)).alloc (.cells #[.int .i64 (-1000000000000000)] 66)).alloc (.cells #[.slice (some ⟨b, off, none⟩) n cap] 24)) = W0 at bN bX2 bS2 hB0 hsz ⊢
  have hcw : ∀ j, j < n → W0.cell? ⟨b, off + j, none⟩ = some (.int .i64 (l.getD j 0)) := fun j hj => (hB0.cell (p := ⟨b, off + j, none⟩) hb).trans (HC.out j hj)
  refine (wpIn_wide (n := 4)).1 ?_
  refine wpIn_rangeFunc_ownG (w0 := W0) rfl (by omega) (gf := 89) (lb := #[.pointer (some ⟨w.heap.size + 1 + 1, 0, none⟩)]) rfl trivial (enters_of Try.func89 (by kernel_rfl) rfl)
    (back_stops 3 (by omega) (w.heap.size + 1 + 1) w.heap.size b off n cap l (by omega) HV.out hb W0 (by omega) (by omega) bN.cell hcw) (fun h k => h.trans k)
    (fun W q o o' h1 h2 h3 h4 => ⟨belowK_b (w := W0) (by omega) W q o o' h1 h2 h3 h4, World.putObj_heap_other (by omega)⟩) (Below.refl _ _) (fun _ => rfl)
    (fun pre W => (W.cell? ⟨w.heap.size + 1, 0, none⟩ = some (.int .i64 (M.hzL x pre)) ∧ W.frozen? ⟨w.heap.size + 1, 0, none⟩ = false ∧ W.cell? ⟨w.heap.size, 0, none⟩ = some (.int .i64 x)) ∧ Below w.heap.size w W)
    (fun _ _ _ => False)
    (OwnFrom.and (Own.from (fun s A B row hs hg hr => ⟨cell_kept hs.1 hg hr, (frozen_kept hs.1 hg hr).trans hs.2.1, cell_kept hs.2.2 hg hr⟩) _) (ownFrom_below (Nat.le_refl _) (by omega)))
    (fun _ _ _ _ _ hs _ _ => hs)
    ⟨⟨bS2.cell, bS2.frozen, bX2.cell⟩, hB0⟩
    (fun p => { tmps := #[.slice (some ⟨b, off, none⟩) n cap, .int .i64 x, undef, .pointer (some ⟨w.heap.size, 0, none⟩), .int .i64 0, .int .i64 0, .pointer (some ⟨w.heap.size + 1, 0, none⟩), undef, .int .i64 p.1.2, .slice (some ⟨b, off, none⟩) n cap, .bool true, .bool false, .int .i64 x, .bool true, .bool false, .slice (some ⟨b, off, none⟩) n cap, .func (.func 89) #[] #[.pointer (some ⟨w.heap.size + 1 + 1, 0, none⟩)], .int .i64 (p.1.1 : Int), .int .i64 p.1.2, undef, undef, undef, undef, undef, undef, undef, undef, undef], defers := [] }) ?assign ?body ?done ?stop
  case assign =>
    intro l x W K hK
    gi_wp2
    exact hK
  case body =>
    rintro lq pre p W ⟨⟨hc1, hf1, hcx⟩, hB⟩ hlt
    have hs1 : Wid (M.hzL x pre) := by
      have := M.hzL_sm HX.out pre
      unfold M.Sm at this; unfold Wid; omega
    have hx1 := wid_val HX.out
    have HS1 := Lib.hid hs1
    have HX1 := Lib.hid hx1
    have HE : Hid (M.hzL x (pre ++ [p]) = max (M.times (M.hzL x pre) x) p.1.2) := M.hzL_snoc x pre p
    clear hs1 hx1
    generalize M.hzL x pre = s at *
    gi_wp2_with (first
      | (refine ⟨trivial, ?_⟩; gi_at_call 62; refine (CallsIn.inRound _ (callsIn_wide.2 (timesW s x _ HS1.out HX1.out))).mono ?_; rintro e3 w3 ⟨rfl, rfl⟩)
      | (refine ⟨trivial, ?_⟩; gi_at_call 63; refine (CallsIn.inRound _ (callsIn_wide.2 (plus (M.times s x) p.1.2 _))).mono ?_; rintro e3 w3 ⟨rfl, rfl⟩)
      | (gi_at_call 62; refine (CallsIn.inRound _ (callsIn_wide.2 (timesW s x _ HS1.out HX1.out))).mono ?_; rintro e3 w3 ⟨rfl, rfl⟩)
      | (gi_at_call 63; refine (CallsIn.inRound _ (callsIn_wide.2 (plus (M.times s x) p.1.2 _))).mono ?_; rintro e3 w3 ⟨rfl, rfl⟩))
    exact ⟨(KeepsOthers.setCell _ _ _).from _, ⟨(Below.refl w.heap.size W).setCell (p := ⟨w.heap.size + 1, 0, none⟩) (Nat.le_succ _) _, Below.heap_setCell _ _ _ _ (by show w.heap.size + 1 + 1 ≠ w.heap.size + 1; omega)⟩, ⟨by rw [HE.out]; exact World.cell?_setCell_same' _ _ _ (by rw [hc1]; rfl), by rw [World.frozen?_setCell]; exact hf1, by rw [World.cell?_of_block (w := W) (Below.heap_setCell _ _ _ _ (by show w.heap.size ≠ w.heap.size + 1; omega))]; exact hcx⟩, hB.setCell (p := ⟨w.heap.size + 1, 0, none⟩) (Nat.le_succ _) _⟩
  case done =>
    rintro D ys W hD rfl ⟨⟨hc1, hf1, hcx⟩, hB⟩ hK
    rw [HH.out] at hc1
    go_wp2_with fail
    refine (checked _ _).mono ?_
    rintro e w' ⟨rfl, rfl⟩
    go_wp2
    refine ⟨by simp, .inl ⟨_, _, rfl, run_takeDeferred hK, ?_⟩⟩
    exact ⟨_, results_tmp2 rfl _ _ _, rfl, hB.trans (belowK_b (w := w) (Nat.le_refl _) W D _ _ (by omega) hK rfl rfl)⟩
  case stop =>
    rintro D c pre W _ _ h _
    exact h.elim
set_option maxRecDepth 100000 in
set_option maxHeartbeats 1000000 in
theorem evaluatePolynomial (a : Option Addr) (n cap : Nat) (l : List Int) (x : Int) (w : World) (h : Ints .i64 w a n l) :
    Calls Try.prog 21 #[.slice a n cap, .int .i64 x] w fun e w' => e = .returned (.tuple #[.int .i64 (M.evalRes l x).1, .int .i64 (M.evalRes l x).2]) ∧ Below w.heap.size w w' := by
  have HI := Lib.hid (h.below (b_alloc w (.cells #[.int .i64 x] 2)))
  obtain ⟨v1, hv1⟩ : ∃ v, v = M.isPoly l := ⟨_, rfl⟩
  have HV1 := Lib.hid hv1.symm
  cases v1 with
  | false =>
    have HE : Hid (M.evalRes l x = (0, 1)) := by show _ = _; unfold M.evalRes; rw [← hv1]; rfl
    clear h hv1
    go_enter Try.func21, Try.ntmps21
    go_wp2_with fail
    refine (isPolynomial_b _ _ _ l _ false HV1.out HI.out).mono ?_
    rintro e w' ⟨rfl, rfl⟩
    go_wp2
    go_ret2
    exact ⟨retP HE.out, b_alloc _ _⟩
  | true =>
    obtain ⟨v2, hv2⟩ : ∃ v, v = M.isVal x := ⟨_, rfl⟩
    have HV2 := Lib.hid hv2.symm
    cases v2 with
    | false =>
      have HE : Hid (M.evalRes l x = (0, 2)) := by show _ = _; unfold M.evalRes; rw [← hv1, ← hv2]; rfl
      clear h hv1 hv2
      go_enter Try.func21, Try.ntmps21
      go_wp2_with fail
      refine (isPolynomial_b _ _ _ l _ true HV1.out HI.out).mono ?_
      rintro e w' ⟨rfl, rfl⟩
      go_wp2_with fail
      refine (isValue x _).mono ?_
      rintro e w' ⟨rfl, rfl⟩
      rw [HV2.out]
      go_wp2
      go_ret2
      exact ⟨retP HE.out, b_alloc _ _⟩
    | true =>
      have HE : Hid (M.evalRes l x = M.chk (M.evalV l x)) := by show _ = _; unfold M.evalRes; rw [← hv1, ← hv2]; rfl
      rw [HE.out]
      exact evaluate_ok a n cap l x w h hv1.symm hv2.symm
set_option maxRecDepth 100000 in
set_option maxHeartbeats 1000000 in
theorem sEvaluatePolynomial (a : Option Addr) (n cap : Nat) (l : List Int) (x : Int) (w : World) (h : Ints .i64 w a n l) :
    Calls Try.prog 22 #[.slice a n cap, .int .i64 x] w fun e w' => e = .returned (.tuple #[.int .i64 (M.evalRes l x).1, .int .i64 (M.evalRes l x).2]) ∧ Below w.heap.size w w' := by
  have HI := Lib.hid h
  obtain ⟨v1, hv1⟩ : ∃ v, v = M.isPoly l := ⟨_, rfl⟩
  have HV1 := Lib.hid hv1.symm
  cases v1 with
  | false =>
    have HE : Hid (M.evalRes l x = (0, 1)) := by show _ = _; unfold M.evalRes; rw [← hv1]; rfl
    clear h hv1
    go_enter Try.func22, Try.ntmps22
    go_wp2_with fail
    refine (sIsPolynomial_b _ _ _ l _ false HV1.out HI.out).mono ?_
    rintro e w' ⟨rfl, rfl⟩
    go_wp2
    go_ret2
    exact ⟨retP HE.out, Below.refl _ _⟩
  | true =>
    obtain ⟨v2, hv2⟩ : ∃ v, v = M.isVal x := ⟨_, rfl⟩
    have HV2 := Lib.hid hv2.symm
    cases v2 with
    | false =>
      have HE : Hid (M.evalRes l x = (0, 2)) := by show _ = _; unfold M.evalRes; rw [← hv1, ← hv2]; rfl
      clear h hv1 hv2
      go_enter Try.func22, Try.ntmps22
      go_wp2_with fail
      refine (sIsPolynomial_b _ _ _ l _ true HV1.out HI.out).mono ?_
      rintro e w' ⟨rfl, rfl⟩
      go_wp2_with fail
      refine (sIsValue x _).mono ?_
      rintro e w' ⟨rfl, rfl⟩
      rw [HV2.out]
      go_wp2
      go_ret2
      exact ⟨retP HE.out, Below.refl _ _⟩
    | true =>
      have HE : Hid (M.evalRes l x = M.chk (M.evalV l x)) := by show _ = _; unfold M.evalRes; rw [← hv1, ← hv2]; rfl
      obtain ⟨p1, p2, p3, -⟩ := M.isPoly_t hv1.symm
      rw [h.1] at p1 p2
      have HL := Lib.hid h.1
      have HV : Hid (∀ i, i < n → M.isVal (l.getD i 0) = true) := fun i hi => p3 i (by rw [h.1]; exact hi)
      by_cases hx : x = -1000000000000000
      · obtain ⟨b, off, y, rfl, -, hy, hc⟩ := h.at 0 (by omega)
        rw [Nat.add_zero] at hc
        have HF : Hid (M.evalRes l x = (y, 0)) := by
          show _ = _
          rw [HE.out]
          have : M.evalV l x = y := by unfold M.evalV; rw [if_pos hx, hy]
          rw [this]
          unfold M.chk
          rw [hy, HV.out 0 (by omega)]; rfl
        subst hx
        have hn0 : (0 : Int) < (n : Int) := by omega
        clear h hv1 hv2 p3 hy
        go_enter Try.func22, Try.ntmps22
        go_wp2_with fail
        refine (sIsPolynomial_b _ _ _ l _ true HV1.out HI.out).mono ?_
        rintro e w' ⟨rfl, rfl⟩
        go_wp2_with fail
        refine (sIsValue _ _).mono ?_
        rintro e w' ⟨rfl, rfl⟩
        rw [HV2.out]
        go_wp2
        go_ret2
        exact ⟨retP HF.out, Below.refl _ _⟩
      · have hf : M.isFin x = true := by
          have := hv2.symm
          unfold M.isVal at this
          simpa [hx] using this
        have HFx := Lib.hid hf
        have hxb : (x == -1000000000000000) = false := by simpa using hx
        have hx2 := M.isFin_t hf
        obtain ⟨hxl, hxu⟩ := hx2
        obtain ⟨f, hff⟩ : ∃ f : Nat → Int, f = fun (i : Nat) => M.times (l.getD i 0) (i * x) := ⟨_, rfl⟩
        have HF : Hid (M.evalV l x = M.sumN n f) := by show _ = _; rw [M.evalV_fin hf, h.1, hff]
        have Hf : Hid (∀ i : Nat, f i = M.times (l.getD i 0) (i * x)) := fun i => by rw [hff]
        clear h hv1 hv2 p3 hf hff
        go_enter Try.func22, Try.ntmps22
        go_wp2_with fail
        refine (sIsPolynomial_b _ _ _ l _ true HV1.out HI.out).mono ?_
        rintro e w' ⟨rfl, rfl⟩
        go_wp2_with fail
        refine (sIsValue _ _).mono ?_
        rintro e w' ⟨rfl, rfl⟩
        rw [HV2.out]
        go_wp2
        go_loop [6, 7] (fun ov iv => ∃ k : Nat, k ≤ n ∧ iv = .int .i64 k ∧ ov = .int .i64 (M.sumN k f)) (fun _ iv => n - (intOf iv).toNat)
        case atStart => exact ⟨0, Nat.zero_le _, rfl, rfl⟩
        case round =>
          obtain ⟨k, hk, rfl, rfl⟩ := hrel
          by_cases hlt : k < n
          · have hki : (k : Int) < (n : Int) := by omega
            obtain ⟨b, off, y, rfl, -, hy, hc⟩ := HI.out.at k hlt
            have hpw := M.pw_sm HFx.out (i := k) (by omega)
            obtain ⟨q, hq⟩ : ∃ q, q = (k : Int) * x := ⟨_, rfl⟩
            obtain ⟨hpl, hpu⟩ := hpw
            have HW1 : Hid (Wid y) := wid_val (by rw [hy]; exact HV.out k hlt)
            have HW2 : Hid (Wid ((k : Int) * x)) := by show Wid _; unfold Wid; omega
            have HS : Hid (max (M.sumN k f) (M.times y ((k : Int) * x)) = M.sumN (k + 1) f) := by
              show _ = max (M.sumN k f) (f k)
              rw [Hf.out k, hy]
            clear hy hq
            generalize M.sumN k f = s at *
            obtain ⟨z, hz⟩ : ∃ z, z = M.times y ((k : Int) * x) := ⟨_, rfl⟩
            have HC : Hid (∀ w, Calls Try.prog 57 #[.int .i64 y, .int .i64 ((k : Int) * x)] w fun e w' => e = .returned (.int .i64 z) ∧ w = w') := fun w => by rw [hz]; exact sTimesW _ _ _ HW1.out HW2.out
            have HS2 : Hid (max s z = M.sumN (k + 1) f) := by show _ = _; rw [hz]; exact HS.out
            clear hz HS
            rcases Int.lt_or_le s z with hsz | hsz
            · go_wp2_with (go_at_call 57; refine (HC.out _).mono ?_; rintro e w' ⟨rfl, rfl⟩)
              go_round
              case rel => exact ⟨k + 1, by omega, by go_num, by rw [← HS2.out]; first | rfl | exact vi (by omega)⟩
              case measure => simp [intOf]; omega
            · go_wp2_with (go_at_call 57; refine (HC.out _).mono ?_; rintro e w' ⟨rfl, rfl⟩)
              go_round
              case rel => exact ⟨k + 1, by omega, by go_num, by rw [← HS2.out]; first | rfl | exact vi (by omega)⟩
              case measure => simp [intOf]; omega
          · obtain rfl : k = n := by omega
            go_wp2_with (go_at_call 66; refine (sValue _ _).mono ?_; rintro e w' ⟨rfl, rfl⟩)
            go_ret2
            exact ⟨retP (by rw [HE.out, HF.out]), Below.refl _ _⟩
end V
end Go.Proofs.Ytlljnfljcdljaaa

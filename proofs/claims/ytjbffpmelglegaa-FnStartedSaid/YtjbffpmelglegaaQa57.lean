/- Texts laid together: Rct. -/
import Derived.Test.YtjbffpmelglegaaQa54
import Derived.Test.YtjbffpmelglegaaQa56
import Derived.Deep.RegionHeld3
set_option linter.unusedSimpArgs false
set_option linter.unusedVariables false
set_option linter.unusedSectionVars false
namespace Go.Proofs.Ytjbffpmelglegaa
namespace M
def stRes (x : Int) (l : List Pc) (n : Int) (S : List Int) : List (List Int) × Int := if inCode (lvCode x l) (inB n 0 50 && tmsB x S) = 0 then (if (timM l (ordL (wtF fOne l) x.toNat x.toNat) (fun e => S.getD e 0) x.toNat n.toNat).all (tmsB x) then (timM l (ordL (wtF fOne l) x.toNat x.toNat) (fun e => S.getD e 0) x.toNat n.toNat, 0) else ([], 3)) else ([], inCode (lvCode x l) (inB n 0 50 && tmsB x S))
theorem tms_at {x : Int} {L : List Int} (h : tmsB x L = true) (e : Nat) : 0 ≤ L.getD e 0 ∧ L.getD e 0 ≤ 1000000 := by
  unfold tmsB at h
  simp only [Bool.and_eq_true, List.all_eq_true] at h
  by_cases hh : e < L.length
  · have := h.2 L[e] (List.getElem_mem hh)
    rw [List.getD_eq_getElem?_getD, List.getElem?_eq_getElem hh]
    unfold tmW inB at this
    simp only [Bool.and_eq_true, decide_eq_true_eq] at this
    exact this
  · rw [List.getD_eq_getElem?_getD, List.getElem?_eq_none (by omega)]
    exact ⟨Int.le_refl _, by show (0 : Int) ≤ 1000000; decide⟩
end M
namespace V
set_option maxRecDepth 100000
open Go.RowKit
set_option maxRecDepth 100000 in
set_option maxHeartbeats 400000 in
theorem startAt (E : Nat) (sa : Option Addr) (m sc : Nat) (L : List Int) (e : Nat) (w : World) (h : Ints .i64 w sa m L) (hE : w.cell? ⟨E, 0, none⟩ = some (.slice sa m sc)) (he : e < m) (hm : m ≤ 1000) : Calls Try.prog 105 #[.int .i64 e, .pointer (some ⟨E, 0, none⟩)] w fun z w' => z = .returned (.int .i64 (L.getD e 0)) ∧ w' = w := by
  obtain ⟨b, off, y, rfl, -, hy, c0⟩ := h.at e he
  have hei : (e : Int) < (m : Int) := by omega
  have HY := Lib.hid hy
  clear hy h he
  go_enter Try.func105, Try.ntmps105
  go_wp2
  go_ret
  exact ⟨by rw [← HY.out]; rfl, rfl⟩
set_option maxRecDepth 100000 in
set_option maxHeartbeats 16000000 in
theorem startedTimes (x : Int) (a : Option Addr) (n cap : Nat) (l : List M.Pc) (nI : Int) (sa : Option Addr) (m sc : Nat) (Ls : List Int) (w : World) (h : Pls w a n l) (hS : Ints .i64 w sa m Ls) :
    Calls Try.prog 57 #[.agg #[.int .i64 x, .slice a n cap], .int .i64 nI, .slice sa m sc] w (MRes (M.stRes x l nI Ls) w) := by
  have HI := Lib.hid h
  have HS := Lib.hid hS
  have hb0 := b_alloc2 w (.cells #[.int .i64 x, .slice a n cap] 41) (.cells #[.slice sa m sc] 24)
  have hG : GBox ((w.alloc (.cells #[.int .i64 x, .slice a n cap] 41)).alloc (.cells #[.slice sa m sc] 24)) w.heap.size x a n cap := (gBox_new w x a n cap 41).below (b_alloc _ _)
  have hE : ((w.alloc (.cells #[.int .i64 x, .slice a n cap] 41)).alloc (.cells #[.slice sa m sc] 24)).cell? ⟨w.heap.size + 1, 0, none⟩ = some (.slice sa m sc) := by simp [go_sem]
  obtain ⟨wb, hwb⟩ : ∃ z, z = (w.alloc (.cells #[.int .i64 x, .slice a n cap] 41)).alloc (.cells #[.slice sa m sc] 24) := ⟨_, rfl⟩
  rw [← hwb] at hb0 hG hE
  have HWb := Lib.hid hwb.symm
  have HG := Lib.hid hG
  have HB0 := Lib.hid hb0
  have HS0 : Hid (∀ w', Below wb.heap.size wb w' → w'.cell? ⟨w.heap.size, 0, none⟩ = some (.int .i64 x) ∧ w'.cell? ⟨w.heap.size, 1, none⟩ = some (.slice a n cap) ∧ w'.cell? ⟨w.heap.size + 1, 0, none⟩ = some (.slice sa m sc) ∧ Below wb.heap.size wb w') := fun w' hb' => ⟨(HG.out.below hb').1, (HG.out.below hb').2, (hb'.cell (cell_lt hE)).trans hE, hb'⟩
  obtain ⟨u, hu⟩ : ∃ u, u = (M.inB nI 0 50 && M.tmsB x Ls) := ⟨_, rfl⟩
  obtain ⟨cd, hcd⟩ : ∃ c, c = M.inCode (M.lvCode x l) u := ⟨_, rfl⟩
  obtain ⟨L, hL⟩ : ∃ L, L = M.ordL (M.wtF M.fOne l) x.toNat x.toNat := ⟨_, rfl⟩
  have HC : Hid (∀ w', Below wb.heap.size wb w' → Calls Try.prog 87 #[.agg #[.int .i64 x, .slice a n cap], .bool u] w' (VRes (if cd = 0 then (L, 0) else ([], cd)) w')) := fun w' hb' => by
    have := liveOrder x a n cap l u w' (h.below (hb0.trans (hb'.mono hb0.size)))
    unfold M.lvoRes at this
    rw [← hcd, ← hL] at this
    exact this
  have HCd := Lib.hid hcd
  have HU := Lib.hid hu
  have HL := Lib.hid hL
  obtain ⟨g0, g1⟩ := hG
  have g2 := hE
  rw [hwb] at g0 g1 g2
  clear h hS hb0 hwb hcd hu hL hE
  cases hU1 : M.inB nI 0 50 with
  | false =>
    have HUp : Hid (∀ W, Calls Try.prog 91 #[.int .i64 nI, .int .i64 50] W fun e w' => e = .returned (.bool false) ∧ W = w') := fun W => by rw [← hU1]; exact isUpTo nI 50 W
    have HUf : u = false := by rw [HU.out, hU1]; rfl
    clear hU1
    have h0 : cd ≠ 0 := fun q => by have := (M.inCode_t (HCd.out.symm.trans q)).2; rw [HUf] at this; cases this
    rw [if_neg h0] at HC
    have h0' : (cd != 0) = true := by simpa using h0
    have HR : Hid (M.stRes x l nI Ls = ([], cd)) := by show _ = _; unfold M.stRes; rw [← HU.out, ← HCd.out, if_neg h0]
    subst HUf
    clear h0
    go_enter Try.func57, Try.ntmps57
    go_wp2
    rw [HWb.out]
    clear g0 g1 g2
    refine wp_region_held_drew (S := fun w' => w'.cell? ⟨w.heap.size, 0, none⟩ = some (.int .i64 x) ∧ w'.cell? ⟨w.heap.size, 1, none⟩ = some (.slice a n cap) ∧ w'.cell? ⟨w.heap.size + 1, 0, none⟩ = some (.slice sa m sc) ∧ Below wb.heap.size wb w') (by kernel_rfl) ?_ (fun hHeld => ?_)
    · exact HS0.out _ (b_draws wb 1)
    refine wpAnyH_take (i := 0) (v := ?vp0) rfl (by kernel_rfl) (by kernel_rfl) (by kernel_rfl) (fun _ _ _ h => h) (Or.inl ⟨by rfl, ?hyp0⟩) (by assumption) ?restp0
    case hyp0 => (intro wy hSw; (try dsimp only at hSw); obtain ⟨s0, s1, s2, s3⟩ := hSw; go_simp; try with_reducible rfl)
    (try simp only [Act.put, List.setIfInBounds_toArray, List.set_cons_zero, List.set_cons_succ])
    refine wpAnyH_take (i := 1) (v := ?vp1) rfl (by kernel_rfl) (by kernel_rfl) (by kernel_rfl) (fun _ _ _ h => h) (Or.inl ⟨by rfl, ?hyp1⟩) (by assumption) ?restp1
    case hyp1 => (intro wy hSw; (try dsimp only at hSw); obtain ⟨s0, s1, s2, s3⟩ := hSw; go_simp; try with_reducible rfl)
    (try simp only [Act.put, List.setIfInBounds_toArray, List.set_cons_zero, List.set_cons_succ])
    refine wpAnyH_ready (rs := [2]) (by kernel_rfl) (by simp) (AllReadyH.cons rfl (fun K hK => ?_) AllReadyH.nil)
    go_simp
    refine (HUp.out _).mono ?_
    rintro e w' ⟨rfl, rfl⟩
    refine hK.out _ _ (HS0.out _ (b_draws wb 1)) (fun hHeld => ?_)
    clear hK K
    (try simp only [Act.put, List.setIfInBounds_toArray, List.set_cons_zero, List.set_cons_succ])
    refine wpAnyH_take (i := 3) (v := ?vp3) rfl (by kernel_rfl) (by kernel_rfl) (by kernel_rfl) (fun _ _ _ h => h) (Or.inl ⟨by rfl, ?hyp3⟩) (by assumption) ?restp3
    case hyp3 => (intro wy hSw; (try dsimp only at hSw); obtain ⟨s0, s1, s2, s3⟩ := hSw; go_simp; try with_reducible rfl)
    (try simp only [Act.put, List.setIfInBounds_toArray, List.set_cons_zero, List.set_cons_succ])
    refine wpAnyH_take (i := 4) (v := undef) rfl (by kernel_rfl) (by kernel_rfl) (by kernel_rfl) (fun _ _ _ h => h) (Or.inr ⟨by rfl, rfl⟩) (by assumption) ?_
    (try simp only [Act.put, List.setIfInBounds_toArray, List.set_cons_zero, List.set_cons_succ])
    refine wpAnyH_take (i := 5) (v := undef) rfl (by kernel_rfl) (by kernel_rfl) (by kernel_rfl) (fun _ _ _ h => h) (Or.inr ⟨by rfl, rfl⟩) (by assumption) ?_
    (try simp only [Act.put, List.setIfInBounds_toArray, List.set_cons_zero, List.set_cons_succ])
    refine wpAnyH_take (i := 6) (v := undef) rfl (by kernel_rfl) (by kernel_rfl) (by kernel_rfl) (fun _ _ _ h => h) (Or.inr ⟨by rfl, rfl⟩) (by assumption) ?_
    (try simp only [Act.put, List.setIfInBounds_toArray, List.set_cons_zero, List.set_cons_succ])
    refine wpAnyH_take (i := 7) (v := ?vp7) rfl (by kernel_rfl) (by kernel_rfl) (by kernel_rfl) (fun _ _ _ h => h) (Or.inl ⟨by rfl, ?hyp7⟩) (by assumption) ?restp7
    case hyp7 => (intro wy hSw; (try dsimp only at hSw); obtain ⟨s0, s1, s2, s3⟩ := hSw; go_simp; try with_reducible rfl)
    (try simp only [Act.put, List.setIfInBounds_toArray, List.set_cons_zero, List.set_cons_succ])
    refine wpAnyH_ready (rs := [8]) (by kernel_rfl) (by simp) (AllReadyH.cons rfl (fun K hK => ?_) AllReadyH.nil)
    go_simp
    refine (HC.out _ (b_draws wb 1)).mono ?_
    rintro e w2 ⟨b2, n2, c2, rfl, ho, hb2⟩
    have HO2 := Lib.hid ho
    have HB2 := Lib.hid ((b_draws wb 1).trans (hb2.mono (b_draws wb 1).size))
    clear ho hb2
    refine hK.out _ _ (HS0.out _ HB2.out) (fun hHeld => ?_)
    clear hK K
    (try simp only [Act.put, List.setIfInBounds_toArray, List.set_cons_zero, List.set_cons_succ])
    refine wpAnyH_take (i := 9) (v := ?vp9) rfl (by kernel_rfl) (by kernel_rfl) (by kernel_rfl) (fun _ _ _ h => h) (Or.inl ⟨by rfl, ?hyp9⟩) (by assumption) ?restp9
    case hyp9 => (intro wy hSw; (try dsimp only at hSw); obtain ⟨s0, s1, s2, s3⟩ := hSw; go_simp; try with_reducible rfl)
    (try simp only [Act.put, List.setIfInBounds_toArray, List.set_cons_zero, List.set_cons_succ])
    refine wpAnyH_take (i := 10) (v := ?vp10) rfl (by kernel_rfl) (by kernel_rfl) (by kernel_rfl) (fun _ _ _ h => h) (Or.inl ⟨by rfl, ?hyp10⟩) (by assumption) ?restp10
    case hyp10 => (intro wy hSw; (try dsimp only at hSw); obtain ⟨s0, s1, s2, s3⟩ := hSw; go_simp; try with_reducible rfl)
    (try simp only [Act.put, List.setIfInBounds_toArray, List.set_cons_zero, List.set_cons_succ])
    refine wpAnyH_take (i := 11) (v := ?vp11) rfl (by kernel_rfl) (by kernel_rfl) (by kernel_rfl) (fun _ _ _ h => h) (Or.inl ⟨by rfl, ?hyp11⟩) (by assumption) ?restp11
    case hyp11 => (intro wy hSw; (try dsimp only at hSw); obtain ⟨s0, s1, s2, s3⟩ := hSw; go_simp; try with_reducible rfl)
    (try simp only [Act.put, List.setIfInBounds_toArray, List.set_cons_zero, List.set_cons_succ])
    refine wpAnyH_ready (rs := [12]) (by kernel_rfl) (by simp) (AllReadyH.cons rfl (fun K hK => ?_) AllReadyH.nil)
    go_simp
    refine hK.out _ _ (HS0.out _ HB2.out) (fun hHeld => ?_)
    clear hK K
    (try simp only [Act.put, List.setIfInBounds_toArray, List.set_cons_zero, List.set_cons_succ])
    refine wpAnyH_ready (rs := [13]) (by kernel_rfl) (by simp) (AllReadyH.cons rfl (fun K hK => ?_) AllReadyH.nil)
    go_simp
    refine hK.out _ _ (HS0.out _ HB2.out) (fun hHeld => ?_)
    clear hK K
    (try simp only [Act.put, List.setIfInBounds_toArray, List.set_cons_zero, List.set_cons_succ])
    refine wpAnyH_done (by kernel_rfl) ?_ _
    go_wp2
    go_ret2
    exact MRes.nil HR.out (HB0.out.trans (HB2.out.mono HB0.out.size))
  | true =>
    have HUp : Hid (∀ W, Calls Try.prog 91 #[.int .i64 nI, .int .i64 50] W fun e w' => e = .returned (.bool true) ∧ W = w') := fun W => by rw [← hU1]; exact isUpTo nI 50 W
    have hU2 : u = M.tmsB x Ls := by rw [HU.out, hU1]; rfl
    have HHt : Hid (∀ w', Below wb.heap.size wb w' → Calls Try.prog 104 #[.agg #[.int .i64 x, .slice a n cap], .slice sa m sc] w' fun e w'' => e = .returned (.bool u) ∧ Below w'.heap.size w' w'') := fun w' hb' => by
      rw [hU2]; exact hasTimes x a n cap sa m sc Ls w' (HS.out.below (HB0.out.trans (hb'.mono HB0.out.size)))
    by_cases h0 : cd = 0
    · subst h0
      rw [if_pos rfl] at HC
      have HU2 := Lib.hid hU2
      have HU1 := Lib.hid hU1
      clear hU1 hU2
      go_enter Try.func57, Try.ntmps57
      go_wp2
      rw [HWb.out]
      clear g0 g1 g2
      refine wp_region_held_drew (S := fun w' => w'.cell? ⟨w.heap.size, 0, none⟩ = some (.int .i64 x) ∧ w'.cell? ⟨w.heap.size, 1, none⟩ = some (.slice a n cap) ∧ w'.cell? ⟨w.heap.size + 1, 0, none⟩ = some (.slice sa m sc) ∧ Below wb.heap.size wb w') (by kernel_rfl) ?_ (fun hHeld => ?_)
      · exact HS0.out _ (b_draws wb 1)
      refine wpAnyH_take (i := 0) (v := ?vq0) rfl (by kernel_rfl) (by kernel_rfl) (by kernel_rfl) (fun _ _ _ h => h) (Or.inl ⟨by rfl, ?hyq0⟩) (by assumption) ?restq0
      case hyq0 => (intro wy hSw; (try dsimp only at hSw); obtain ⟨s0, s1, s2, s3⟩ := hSw; go_simp; try with_reducible rfl)
      (try simp only [Act.put, List.setIfInBounds_toArray, List.set_cons_zero, List.set_cons_succ])
      refine wpAnyH_take (i := 1) (v := ?vq1) rfl (by kernel_rfl) (by kernel_rfl) (by kernel_rfl) (fun _ _ _ h => h) (Or.inl ⟨by rfl, ?hyq1⟩) (by assumption) ?restq1
      case hyq1 => (intro wy hSw; (try dsimp only at hSw); obtain ⟨s0, s1, s2, s3⟩ := hSw; go_simp; try with_reducible rfl)
      (try simp only [Act.put, List.setIfInBounds_toArray, List.set_cons_zero, List.set_cons_succ])
      refine wpAnyH_ready (rs := [2]) (by kernel_rfl) (by simp) (AllReadyH.cons rfl (fun K hK => ?_) AllReadyH.nil)
      go_simp
      refine (HUp.out _).mono ?_
      rintro e w' ⟨rfl, rfl⟩
      refine hK.out _ _ (HS0.out _ (b_draws wb 1)) (fun hHeld => ?_)
      clear hK K
      (try simp only [Act.put, List.setIfInBounds_toArray, List.set_cons_zero, List.set_cons_succ])
      refine wpAnyH_take (i := 3) (v := ?vq3) rfl (by kernel_rfl) (by kernel_rfl) (by kernel_rfl) (fun _ _ _ h => h) (Or.inl ⟨by rfl, ?hyq3⟩) (by assumption) ?restq3
      case hyq3 => (intro wy hSw; (try dsimp only at hSw); obtain ⟨s0, s1, s2, s3⟩ := hSw; go_simp; try with_reducible rfl)
      (try simp only [Act.put, List.setIfInBounds_toArray, List.set_cons_zero, List.set_cons_succ])
      refine wpAnyH_take (i := 4) (v := ?vq4) rfl (by kernel_rfl) (by kernel_rfl) (by kernel_rfl) (fun _ _ _ h => h) (Or.inl ⟨by rfl, ?hyq4⟩) (by assumption) ?restq4
      case hyq4 => (intro wy hSw; (try dsimp only at hSw); obtain ⟨s0, s1, s2, s3⟩ := hSw; go_simp; try with_reducible rfl)
      (try simp only [Act.put, List.setIfInBounds_toArray, List.set_cons_zero, List.set_cons_succ])
      refine wpAnyH_take (i := 5) (v := ?vq5) rfl (by kernel_rfl) (by kernel_rfl) (by kernel_rfl) (fun _ _ _ h => h) (Or.inl ⟨by rfl, ?hyq5⟩) (by assumption) ?restq5
      case hyq5 => (intro wy hSw; (try dsimp only at hSw); obtain ⟨s0, s1, s2, s3⟩ := hSw; go_simp; try with_reducible rfl)
      (try simp only [Act.put, List.setIfInBounds_toArray, List.set_cons_zero, List.set_cons_succ])
      refine wpAnyH_ready (rs := [6]) (by kernel_rfl) (by simp) (AllReadyH.cons rfl (fun K hK => ?_) AllReadyH.nil)
      go_simp
      refine (HHt.out _ (b_draws wb 1)).mono ?_
      rintro e wh ⟨rfl, hbh⟩
      have HBh := Lib.hid ((b_draws wb 1).trans hbh)
      clear hbh
      refine hK.out _ _ (HS0.out _ HBh.out) (fun hHeld => ?_)
      clear hK K
      (try simp only [Act.put, List.setIfInBounds_toArray, List.set_cons_zero, List.set_cons_succ])
      refine wpAnyH_take (i := 7) (v := ?vq7) rfl (by kernel_rfl) (by kernel_rfl) (by kernel_rfl) (fun _ _ _ h => h) (Or.inl ⟨by rfl, ?hyq7⟩) (by assumption) ?restq7
      case hyq7 => (intro wy hSw; (try dsimp only at hSw); obtain ⟨s0, s1, s2, s3⟩ := hSw; go_simp; try with_reducible rfl)
      (try simp only [Act.put, List.setIfInBounds_toArray, List.set_cons_zero, List.set_cons_succ])
      refine wpAnyH_ready (rs := [8]) (by kernel_rfl) (by simp) (AllReadyH.cons rfl (fun K hK => ?_) AllReadyH.nil)
      go_simp
      refine (HC.out _ HBh.out).mono ?_
      rintro e w2 ⟨b2, n2, c2, rfl, ho, hb2⟩
      have HO2 := Lib.hid ho
      have HB2 := Lib.hid (HBh.out.trans (hb2.mono HBh.out.size))
      clear ho hb2
      refine hK.out _ _ (HS0.out _ HB2.out) (fun hHeld => ?_)
      clear hK K
      (try simp only [Act.put, List.setIfInBounds_toArray, List.set_cons_zero, List.set_cons_succ])
      refine wpAnyH_take (i := 9) (v := ?vq9) rfl (by kernel_rfl) (by kernel_rfl) (by kernel_rfl) (fun _ _ _ h => h) (Or.inl ⟨by rfl, ?hyq9⟩) (by assumption) ?restq9
      case hyq9 => (intro wy hSw; (try dsimp only at hSw); obtain ⟨s0, s1, s2, s3⟩ := hSw; go_simp; try with_reducible rfl)
      (try simp only [Act.put, List.setIfInBounds_toArray, List.set_cons_zero, List.set_cons_succ])
      refine wpAnyH_take (i := 10) (v := ?vq10) rfl (by kernel_rfl) (by kernel_rfl) (by kernel_rfl) (fun _ _ _ h => h) (Or.inl ⟨by rfl, ?hyq10⟩) (by assumption) ?restq10
      case hyq10 => (intro wy hSw; (try dsimp only at hSw); obtain ⟨s0, s1, s2, s3⟩ := hSw; go_simp; try with_reducible rfl)
      (try simp only [Act.put, List.setIfInBounds_toArray, List.set_cons_zero, List.set_cons_succ])
      refine wpAnyH_take (i := 11) (v := ?vq11) rfl (by kernel_rfl) (by kernel_rfl) (by kernel_rfl) (fun _ _ _ h => h) (Or.inl ⟨by rfl, ?hyq11⟩) (by assumption) ?restq11
      case hyq11 => (intro wy hSw; (try dsimp only at hSw); obtain ⟨s0, s1, s2, s3⟩ := hSw; go_simp; try with_reducible rfl)
      (try simp only [Act.put, List.setIfInBounds_toArray, List.set_cons_zero, List.set_cons_succ])
      refine wpAnyH_ready (rs := [12]) (by kernel_rfl) (by simp) (AllReadyH.cons rfl (fun K hK => ?_) AllReadyH.nil)
      go_simp
      refine hK.out _ _ (HS0.out _ HB2.out) (fun hHeld => ?_)
      clear hK K
      (try simp only [Act.put, List.setIfInBounds_toArray, List.set_cons_zero, List.set_cons_succ])
      refine wpAnyH_ready (rs := [13]) (by kernel_rfl) (by simp) (AllReadyH.cons rfl (fun K hK => ?_) AllReadyH.nil)
      go_simp
      refine hK.out _ _ (HS0.out _ HB2.out) (fun hHeld => ?_)
      clear hK K
      (try simp only [Act.put, List.setIfInBounds_toArray, List.set_cons_zero, List.set_cons_succ])
      refine wpAnyH_done (by kernel_rfl) ?_ _
      obtain ⟨hlv, hut⟩ := M.inCode_t HCd.out.symm
      obtain ⟨N, hxN, hgr, hlive, hnp, n1, n10⟩ := lv_live hlv
      subst hxN
      have HGr := Lib.hid hgr
      have HLive := Lib.hid hlive
      have HNp := Lib.hid hnp
      have HUt := Lib.hid hut
      have HBw := Lib.hid (HB0.out.trans (HB2.out.mono HB0.out.size))
      have HUt2 : M.tmsB (N : Int) Ls = true := HU2.out.symm.trans hut
      have hU1 := HU1.out
      clear hgr hlive hnp hlv hut
      obtain ⟨g0, g1⟩ := HG.out.below HB2.out
      obtain ⟨nn, rfl, hnn⟩ := inB_nat (m := 50) hU1
      have hst : ∀ e, 0 ≤ Ls.getD e 0 ∧ Ls.getD e 0 ≤ 1000000 := fun e => M.tms_at HUt2 e
      have hLN : L = M.ordL (M.wtF M.fOne l) N N := HL.out
      have hol := M.ord_full (M.uz_graph l) n10 HNp.out (Nat.le_refl N)
      have hn2 : N = n2 := by have q := HO2.out.len; rw [hLN, hol] at q; exact q.symm
      subst hn2
      have HOi : Hid (Ints .i64 w2 b2 N (M.ordL (M.wtF M.fOne l) N N)) := by show Ints _ _ _ _ _; rw [← hLN]; exact HO2.out.ints'
      obtain ⟨TM, hTM⟩ : ∃ t, t = M.timM l (M.ordL (M.wtF M.fOne l) N N) (fun e => Ls.getD e 0) N nn := ⟨_, rfl⟩
      have HR : Hid (M.stRes (N : Int) l nn Ls = if TM.all (M.tmsB (N : Int)) then (TM, 0) else ([], 3)) := by show _ = _; unfold M.stRes; rw [← HU.out, ← HCd.out, hTM]; rfl
      have hmN : m = N := by
        have q := HUt2
        unfold M.tmsB at q
        simp only [Bool.and_eq_true, decide_eq_true_eq] at q
        rw [HS.out.1] at q
        omega
      have HSt : Hid (∀ e : Nat, e < N → ∀ w', Below w2.heap.size w2 w' → Calls Try.prog 105 #[.int .i64 e, .pointer (some ⟨w.heap.size + 1, 0, none⟩)] w' fun z w'' => z = .returned (.int .i64 (Ls.getD e 0)) ∧ w'' = w') := fun e he w' hb' => startAt (w.heap.size + 1) sa m sc Ls e w' (HS.out.below (HBw.out.trans (hb'.mono HBw.out.size))) ((hb'.cell (cell_lt (HS0.out _ HB2.out).2.2.1)).trans (HS0.out _ HB2.out).2.2.1) (by omega) (by omega)
      have HFt : Hid (Calls Try.prog 92 #[.agg #[.int .i64 N, .slice a n cap], .int .i64 nn, .slice b2 N c2, .func (.func 105) #[] #[.pointer (some ⟨w.heap.size + 1, 0, none⟩)]] w2 (MPost nn TM w2)) := by
        rw [hTM]
        exact firingTimesS N a n cap l nn b2 c2 (w.heap.size + 1) (fun e => Ls.getD e 0) w2 (HI.out.below HBw.out) HGr.out HNp.out hnn HOi.out hst HSt.out
      have HRows : Hid (∀ i, i < nn → (TM.getD i []).length = N) := fun i hi => by rw [hTM]; exact M.mk_rowlen _ _ _ _ hi
      have HTl : Hid (TM.length = nn) := by show _ = _; rw [hTM]; exact M.mk_length _ _ _
      clear hst hLN hol hTM hmN hU1 HUt2
      go_wp2_with fail
      refine HFt.out.mono ?_
      rintro e w3 ⟨b3, c3, rfl, ho, hb⟩
      have HO3 := Lib.hid (ho.mono HBw.out.size)
      have HMt := Lib.hid ho.mat
      have HB3 := Lib.hid (HBw.out.trans (hb.mono HBw.out.size))
      have HG3 := Lib.hid ((HG.out.below HB2.out).below hb)
      clear ho hb g0 g1
      go_wp2
      go_loopw [35] (fun kv wr => ∃ k : Nat, k ≤ nn ∧ kv = .int .i64 k ∧ Hid (∀ i, i < k → M.tmsB (N : Int) (TM.getD i []) = true) ∧ Hid (Below w3.heap.size w3 wr)) (fun kv _ => nn - (intOf kv).toNat)
      case atStart => exact ⟨0, Nat.zero_le _, rfl, fun i hi => absurd hi (Nat.not_lt_zero i), Below.refl _ _⟩
      case round =>
        obtain ⟨k, hk, rfl, HA, HB⟩ := hrel
        obtain ⟨wo, rfl⟩ : ∃ x, x = wr := ⟨_, rfl⟩
        obtain ⟨g0, g1⟩ := HG3.out.below HB.out
        by_cases hkn : k < nn
        · have hki : (k : Int) < (nn : Int) := by omega
          obtain ⟨tb, tof, ra, rc, L', R', rfl, -, hR', d1, hI'⟩ := (HMt.out.below HB.out).at k hkn
          obtain ⟨v, hv⟩ : ∃ v, v = M.tmsB (N : Int) (TM.getD k []) := ⟨_, rfl⟩
          have HHr : Hid (Calls Try.prog 104 #[.agg #[.int .i64 N, .slice a n cap], .slice ra L' rc] wo fun e w' => e = .returned (.bool v) ∧ Below wo.heap.size wo w') := by
            rw [hv, ← hR']; exact hasTimes (N : Int) a n cap ra L' rc R' wo hI'
          have HV := Lib.hid hv.symm
          clear hv hR' hI'
          cases v with
          | true =>
            go_wp2_with fail
            refine HHr.out.mono ?_
            rintro e w4 ⟨rfl, hb4⟩
            have HB4 := Lib.hid (HB.out.trans (hb4.mono HB.out.size))
            clear hb4 g0 g1 d1
            go_wp2
            go_roundw
            case rel => exact ⟨k + 1, by omega, by go_num, fun i hi => by rcases Nat.lt_or_ge i k with q | q; exact HA.out i q; rw [show i = k by omega]; exact HV.out, HB4⟩
            case measure => simp [intOf]; omega
          | false =>
            have HR2 : Hid (M.stRes (N : Int) l nn Ls = ([], 3)) := HR.out.trans (if_neg (fun q => by
              have := List.all_eq_true.1 q (TM.getD k []) (by
                have hh : k < TM.length := by rw [HTl.out]; exact hkn
                rw [List.getD_eq_getElem?_getD, List.getElem?_eq_getElem hh]; exact List.getElem_mem hh)
              rw [HV.out] at this; cases this))
            go_wp2_with fail
            refine HHr.out.mono ?_
            rintro e w4 ⟨rfl, hb4⟩
            have HB4 := Lib.hid (HB.out.trans (hb4.mono HB.out.size))
            clear hb4 g0 g1 d1
            go_wp2
            go_ret2
            exact MRes.nil HR2.out (HB3.out.trans (HB4.out.mono HB3.out.size))
        · obtain rfl : k = nn := by omega
          have HR2 : Hid (M.stRes (N : Int) l k Ls = (TM, 0)) := HR.out.trans (if_pos (List.all_eq_true.2 fun z hz => by
            obtain ⟨i, hi, rfl⟩ := List.mem_iff_getElem.1 hz
            have := HA.out i (by rw [← HTl.out]; exact hi)
            rwa [List.getD_eq_getElem?_getD, List.getElem?_eq_getElem hi] at this))
          go_wp2
          go_ret2
          rw [HR2.out]
          exact ⟨_, _, _, rfl, HO3.out.below HB.out, HB3.out.trans (HB.out.mono HB3.out.size)⟩
    · skip
      clear hU1 hU2
      rw [if_neg h0] at HC
      have h0' : (cd != 0) = true := by simpa using h0
      have HR : Hid (M.stRes x l nI Ls = ([], cd)) := by show _ = _; unfold M.stRes; rw [← HU.out, ← HCd.out, if_neg h0]
      clear h0
      go_enter Try.func57, Try.ntmps57
      go_wp2
      rw [HWb.out]
      clear g0 g1 g2
      refine wp_region_held_drew (S := fun w' => w'.cell? ⟨w.heap.size, 0, none⟩ = some (.int .i64 x) ∧ w'.cell? ⟨w.heap.size, 1, none⟩ = some (.slice a n cap) ∧ w'.cell? ⟨w.heap.size + 1, 0, none⟩ = some (.slice sa m sc) ∧ Below wb.heap.size wb w') (by kernel_rfl) ?_ (fun hHeld => ?_)
      · exact HS0.out _ (b_draws wb 1)
      refine wpAnyH_take (i := 0) (v := ?vr0) rfl (by kernel_rfl) (by kernel_rfl) (by kernel_rfl) (fun _ _ _ h => h) (Or.inl ⟨by rfl, ?hyr0⟩) (by assumption) ?restr0
      case hyr0 => (intro wy hSw; (try dsimp only at hSw); obtain ⟨s0, s1, s2, s3⟩ := hSw; go_simp; try with_reducible rfl)
      (try simp only [Act.put, List.setIfInBounds_toArray, List.set_cons_zero, List.set_cons_succ])
      refine wpAnyH_take (i := 1) (v := ?vr1) rfl (by kernel_rfl) (by kernel_rfl) (by kernel_rfl) (fun _ _ _ h => h) (Or.inl ⟨by rfl, ?hyr1⟩) (by assumption) ?restr1
      case hyr1 => (intro wy hSw; (try dsimp only at hSw); obtain ⟨s0, s1, s2, s3⟩ := hSw; go_simp; try with_reducible rfl)
      (try simp only [Act.put, List.setIfInBounds_toArray, List.set_cons_zero, List.set_cons_succ])
      refine wpAnyH_ready (rs := [2]) (by kernel_rfl) (by simp) (AllReadyH.cons rfl (fun K hK => ?_) AllReadyH.nil)
      go_simp
      refine (HUp.out _).mono ?_
      rintro e w' ⟨rfl, rfl⟩
      refine hK.out _ _ (HS0.out _ (b_draws wb 1)) (fun hHeld => ?_)
      clear hK K
      (try simp only [Act.put, List.setIfInBounds_toArray, List.set_cons_zero, List.set_cons_succ])
      refine wpAnyH_take (i := 3) (v := ?vr3) rfl (by kernel_rfl) (by kernel_rfl) (by kernel_rfl) (fun _ _ _ h => h) (Or.inl ⟨by rfl, ?hyr3⟩) (by assumption) ?restr3
      case hyr3 => (intro wy hSw; (try dsimp only at hSw); obtain ⟨s0, s1, s2, s3⟩ := hSw; go_simp; try with_reducible rfl)
      (try simp only [Act.put, List.setIfInBounds_toArray, List.set_cons_zero, List.set_cons_succ])
      refine wpAnyH_take (i := 4) (v := ?vr4) rfl (by kernel_rfl) (by kernel_rfl) (by kernel_rfl) (fun _ _ _ h => h) (Or.inl ⟨by rfl, ?hyr4⟩) (by assumption) ?restr4
      case hyr4 => (intro wy hSw; (try dsimp only at hSw); obtain ⟨s0, s1, s2, s3⟩ := hSw; go_simp; try with_reducible rfl)
      (try simp only [Act.put, List.setIfInBounds_toArray, List.set_cons_zero, List.set_cons_succ])
      refine wpAnyH_take (i := 5) (v := ?vr5) rfl (by kernel_rfl) (by kernel_rfl) (by kernel_rfl) (fun _ _ _ h => h) (Or.inl ⟨by rfl, ?hyr5⟩) (by assumption) ?restr5
      case hyr5 => (intro wy hSw; (try dsimp only at hSw); obtain ⟨s0, s1, s2, s3⟩ := hSw; go_simp; try with_reducible rfl)
      (try simp only [Act.put, List.setIfInBounds_toArray, List.set_cons_zero, List.set_cons_succ])
      refine wpAnyH_ready (rs := [6]) (by kernel_rfl) (by simp) (AllReadyH.cons rfl (fun K hK => ?_) AllReadyH.nil)
      go_simp
      refine (HHt.out _ (b_draws wb 1)).mono ?_
      rintro e wh ⟨rfl, hbh⟩
      have HBh := Lib.hid ((b_draws wb 1).trans hbh)
      clear hbh
      refine hK.out _ _ (HS0.out _ HBh.out) (fun hHeld => ?_)
      clear hK K
      (try simp only [Act.put, List.setIfInBounds_toArray, List.set_cons_zero, List.set_cons_succ])
      refine wpAnyH_take (i := 7) (v := ?vr7) rfl (by kernel_rfl) (by kernel_rfl) (by kernel_rfl) (fun _ _ _ h => h) (Or.inl ⟨by rfl, ?hyr7⟩) (by assumption) ?restr7
      case hyr7 => (intro wy hSw; (try dsimp only at hSw); obtain ⟨s0, s1, s2, s3⟩ := hSw; go_simp; try with_reducible rfl)
      (try simp only [Act.put, List.setIfInBounds_toArray, List.set_cons_zero, List.set_cons_succ])
      refine wpAnyH_ready (rs := [8]) (by kernel_rfl) (by simp) (AllReadyH.cons rfl (fun K hK => ?_) AllReadyH.nil)
      go_simp
      refine (HC.out _ HBh.out).mono ?_
      rintro e w2 ⟨b2, n2, c2, rfl, ho, hb2⟩
      have HO2 := Lib.hid ho
      have HB2 := Lib.hid (HBh.out.trans (hb2.mono HBh.out.size))
      clear ho hb2
      refine hK.out _ _ (HS0.out _ HB2.out) (fun hHeld => ?_)
      clear hK K
      (try simp only [Act.put, List.setIfInBounds_toArray, List.set_cons_zero, List.set_cons_succ])
      refine wpAnyH_take (i := 9) (v := ?vr9) rfl (by kernel_rfl) (by kernel_rfl) (by kernel_rfl) (fun _ _ _ h => h) (Or.inl ⟨by rfl, ?hyr9⟩) (by assumption) ?restr9
      case hyr9 => (intro wy hSw; (try dsimp only at hSw); obtain ⟨s0, s1, s2, s3⟩ := hSw; go_simp; try with_reducible rfl)
      (try simp only [Act.put, List.setIfInBounds_toArray, List.set_cons_zero, List.set_cons_succ])
      refine wpAnyH_take (i := 10) (v := ?vr10) rfl (by kernel_rfl) (by kernel_rfl) (by kernel_rfl) (fun _ _ _ h => h) (Or.inl ⟨by rfl, ?hyr10⟩) (by assumption) ?restr10
      case hyr10 => (intro wy hSw; (try dsimp only at hSw); obtain ⟨s0, s1, s2, s3⟩ := hSw; go_simp; try with_reducible rfl)
      (try simp only [Act.put, List.setIfInBounds_toArray, List.set_cons_zero, List.set_cons_succ])
      refine wpAnyH_take (i := 11) (v := ?vr11) rfl (by kernel_rfl) (by kernel_rfl) (by kernel_rfl) (fun _ _ _ h => h) (Or.inl ⟨by rfl, ?hyr11⟩) (by assumption) ?restr11
      case hyr11 => (intro wy hSw; (try dsimp only at hSw); obtain ⟨s0, s1, s2, s3⟩ := hSw; go_simp; try with_reducible rfl)
      (try simp only [Act.put, List.setIfInBounds_toArray, List.set_cons_zero, List.set_cons_succ])
      refine wpAnyH_ready (rs := [12]) (by kernel_rfl) (by simp) (AllReadyH.cons rfl (fun K hK => ?_) AllReadyH.nil)
      go_simp
      refine hK.out _ _ (HS0.out _ HB2.out) (fun hHeld => ?_)
      clear hK K
      (try simp only [Act.put, List.setIfInBounds_toArray, List.set_cons_zero, List.set_cons_succ])
      refine wpAnyH_ready (rs := [13]) (by kernel_rfl) (by simp) (AllReadyH.cons rfl (fun K hK => ?_) AllReadyH.nil)
      go_simp
      refine hK.out _ _ (HS0.out _ HB2.out) (fun hHeld => ?_)
      clear hK K
      (try simp only [Act.put, List.setIfInBounds_toArray, List.set_cons_zero, List.set_cons_succ])
      refine wpAnyH_done (by kernel_rfl) ?_ _
      go_wp2
      go_ret2
      exact MRes.nil HR.out (HB0.out.trans (HB2.out.mono HB0.out.size))
end V
end Go.Proofs.Ytjbffpmelglegaa

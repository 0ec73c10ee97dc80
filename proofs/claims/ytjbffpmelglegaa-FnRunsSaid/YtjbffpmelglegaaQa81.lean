/- Texts laid together: Fmk. -/
import Derived.Test.YtjbffpmelglegaaQa80
set_option linter.unusedSimpArgs false
set_option linter.unusedVariables false
set_option linter.unusedSectionVars false
namespace Go.Proofs.Ytjbffpmelglegaa
namespace M
def mrkRes (x : Int) (l : List Pc) (L : List Fr) : List Int × Int := mrkF (isGr x l) x.toNat l L
def mrkL (l : List Pc) (L : List Fr) (k : Nat) : List Int := (l.take k).map (tokF L)
theorem mrkL_len (l : List Pc) (L : List Fr) {k : Nat} (h : k ≤ l.length) : (mrkL l L k).length = k := by
  unfold mrkL; rw [List.length_map, List.length_take]; omega
theorem mrkL_next (l : List Pc) (L : List Fr) {k : Nat} (h : k < l.length) : mrkL l L (k + 1) = mrkL l L k ++ [tokF L (l.getD k pz)] := by
  unfold mrkL
  rw [takeF_snoc l pz h, List.map_append]; rfl
theorem mrkRes_no {x : Int} {l : List Pc} {L : List Fr} {c : Int} (h : rcode x l L = c) (hc : c ≠ 0) : mrkRes x l L = ([], c) := by
  unfold mrkRes mrkF
  unfold rcode at h
  rw [h, if_neg hc]
theorem mrkRes_yes {N : Nat} {l : List Pc} {L : List Fr} (h : rcode N l L = 0) : mrkRes N l L = (mrkL l L l.length, 0) := by
  unfold mrkRes mrkF mrkL
  unfold rcode at h
  rw [h, if_pos rfl, List.take_length]
theorem mrkRes_len (x : Int) (l : List Pc) (L : List Fr) : (mrkRes x l L).1.length ≤ 30 := by
  by_cases h : rcode x l L = 0
  · obtain ⟨N, rfl, hg, -, -⟩ := rcode_zero h
    rw [mrkRes_yes h]
    unfold isGr at hg
    simp only [Bool.and_eq_true, decide_eq_true_eq] at hg
    have := mrkL_len l L (Nat.le_refl l.length)
    simp only
    omega
  · rw [mrkRes_no rfl h]; simp
end M
namespace V
set_option maxRecDepth 100000
open Go.RowKit
set_option maxRecDepth 100000 in
set_option maxHeartbeats 4000000 in
theorem sMarkingAfter (x : Int) (a : Option Addr) (n cap : Nat) (l : List M.Pc) (fa : Option Addr) (fn fc : Nat) (L : List M.Fr) (w : World) (h : Pls w a n l) (hf : Frs w fa fn L) (hc : fn ≤ fc) (hcm : fc ≤ maxLen) :
    Calls Try.prog 28 #[.agg #[.int .i64 x, .slice a n cap], .slice fa fn fc] w (VRes (M.mrkRes x l L) w) := by
  have HI := Lib.hid h
  have HL : Hid (l.length = n) := h.1
  have HFr := Lib.hid hf
  have HLn : Hid (L.length = fn) := hf.1
  have hb0 := b_alloc w (.cells #[.int .i64 x, .slice a n cap] 41)
  have hGb := gBox_new w x a n cap 41
  obtain ⟨wb, hwb⟩ : ∃ z, z = w.alloc (.cells #[.int .i64 x, .slice a n cap] 41) := ⟨_, rfl⟩
  rw [← hwb] at hb0 hGb
  have HB0 := Lib.hid hb0
  have HGb := Lib.hid hGb
  obtain ⟨C, hC⟩ : ∃ C, C = M.rcode x l L := ⟨_, rfl⟩
  have HS : Hid (Calls Try.prog 74 #[.agg #[.int .i64 x, .slice a n cap], .slice fa fn fc] wb fun z w' => z = .returned (.int .i64 C) ∧ Below wb.heap.size wb w') := by rw [hC]; exact sCode14 x a n cap l fa fn fc L wb (h.below hb0) (hf.below hb0) hc hcm
  have HCe := Lib.hid hC
  clear h hf hb0 hGb hC
  by_cases h0 : C = 0
  · subst h0
    obtain ⟨N, rfl, hg, hl5, hrun⟩ := M.rcode_zero HCe.out.symm
    have HG := Lib.hid hg
    obtain ⟨n1, n2, hl30⟩ := gr_NF hg
    have hn30 : n ≤ 30 := by rw [HL.out] at hl30; exact hl30
    have hfn : fn ≤ 500 := by rw [HLn.out] at hl5; exact hl5
    have HR : Hid (M.mrkRes N l L = (M.mrkL l L n, 0)) := by show _ = _; rw [M.mrkRes_yes HCe.out.symm, HL.out]
    clear hg hl5 hrun hl30
    go_enter Try.func28, Try.ntmps28
    go_wp2_with fail
    rw [← hwb]
    clear hwb
    refine (HS.out).mono ?_
    rintro z w1 ⟨rfl, hb1⟩
    have HB1 := Lib.hid (HB0.out.trans (hb1.mono HB0.out.size))
    have hG1 := HGb.out.below hb1
    have hz1 : w.heap.size + 1 ≤ w1.heap.size := cell_lt hG1.1
    have HB2 : Hid (Below w.heap.size w (w1.alloc (.cells #[] 2))) := HB1.out.alloc HB1.out.size _
    have HG2 : Hid (GBox (w1.alloc (.cells #[] 2)) w.heap.size N a n cap) := hG1.below (b_alloc w1 _)
    have HO0 : Hid (Own (w1.alloc (.cells #[] 2)) (w.heap.size + 1) (.slice (some ⟨w1.heap.size, 0, none⟩) 0 0) (M.mrkL l L 0)) := own_lit0 w1 _ hz1
    obtain ⟨g0, g1⟩ := hG1
    clear hb1 HS
    go_wp2
    clear g0 g1
    go_loopw [7, 8] (fun lv kv wr => ∃ (k : Nat) (b : Option Addr) (c : Nat), k ≤ n ∧ kv = .int .i64 k ∧ lv = .slice b k c ∧ Hid (Own wr (w.heap.size + 1) (.slice b k c) (M.mrkL l L k)) ∧ Hid (GBox wr w.heap.size N a n cap) ∧ Hid (Below w.heap.size w wr)) (fun _ kv _ => n - (intOf kv).toNat)
    case atStart => exact ⟨0, _, _, Nat.zero_le _, rfl, rfl, HO0, HG2, HB2⟩
    case round =>
      obtain ⟨k, b, c, hk, rfl, rfl, HO, HGr, HB⟩ := hrel
      obtain ⟨wo, rfl⟩ : ∃ x, x = wr := ⟨_, rfl⟩
      clear HO0 HG2 HB2
      obtain ⟨g0, g1⟩ := HGr.out
      by_cases hkl : k < n
      · have hki : (k : Int) < (n : Int) := by omega
        have hsz1 : w.heap.size + 1 ≤ wo.heap.size := cell_lt g0
        have HKl : Hid ((M.mrkL l L k).length = k) := M.mrkL_len l L (by rw [HL.out]; omega)
        obtain ⟨pb, off, p0, p1, p2, p3, rfl, -, hp, c0, c1, c2, c3⟩ := (HI.out.below HB.out).at k hkl
        obtain ⟨e', j, he', hj, rfl, rfl, t2, t2', t3, t3'⟩ := gr_atF HG.out (by rw [HL.out]; exact hkl) hp
        have hNx := M.mrkL_next l L (k := k) (by rw [HL.out]; exact hkl)
        rw [hp] at hNx
        have hbp : Below wo.heap.size wo (wo.alloc (.cells #[.int .i64 j, .int .i64 e', .int .i64 p2, .int .i64 p3] 52)) := b_alloc wo _
        obtain ⟨wp, hwp⟩ : ∃ z, z = wo.alloc (.cells #[.int .i64 j, .int .i64 e', .int .i64 p2, .int .i64 p3] 52) := ⟨_, rfl⟩
        have x0 : wp.cell? ⟨wo.heap.size, 0, none⟩ = some (.int .i64 j) := by rw [hwp]; simp [go_sem]
        have x1 : wp.cell? ⟨wo.heap.size, 1, none⟩ = some (.int .i64 e') := by rw [hwp]; simp [go_sem]
        have x3 : wp.cell? ⟨wo.heap.size, 3, none⟩ = some (.int .i64 p3) := by rw [hwp]; simp [go_sem]
        rw [← hwp] at hbp
        have HBp := Lib.hid (HB.out.trans (hbp.mono HB.out.size))
        have HLt : Hid (∀ q, (Value.slice b k c).ownBlock = some q → q < wo.heap.size) := fun q hq => (own_lt HO.out hq).2
        have HOp : Hid (Own wp.drew (w.heap.size + 1) (.slice b k c) (M.mrkL l L k)) := (HO.out.below hbp).below (b_draws wp 1)
        have HGp : Hid (GBox wp.drew w.heap.size N (some ⟨pb, off, none⟩) n cap) := (HGr.out.below hbp).below (b_draws wp 1)
        have HBd := Lib.hid (HBp.out.drew)
        have hszp : w.heap.size + 1 ≤ wp.drew.heap.size := by have := hbp.size; have e : wp.drew.heap.size = wp.heap.size := rfl; omega
        obtain ⟨cj, hcj⟩ : ∃ c, c = M.cntF L (j : Int) := ⟨_, rfl⟩
        obtain ⟨ce, hce⟩ : ∃ c, c = M.cntF L (e' : Int) := ⟨_, rfl⟩
        have hcj5 : cj ≤ 500 := by rw [hcj]; exact Nat.le_trans (M.cntF_le _ _) (by rw [HLn.out]; omega)
        have hce5 : ce ≤ 500 := by rw [hce]; exact Nat.le_trans (M.cntF_le _ _) (by rw [HLn.out]; omega)
        have HA1 : Hid (Calls Try.prog 69 #[.slice fa fn fc, .int .i64 j] wp.drew fun z w' => z = .returned (.int .i64 cj) ∧ w' = wp.drew) := by rw [hcj]; exact sCount fa fn fc L j _ (HFr.out.below HBd.out)
        have HA2 : Hid (Calls Try.prog 69 #[.slice fa fn fc, .int .i64 e'] wp.drew fun z w' => z = .returned (.int .i64 ce) ∧ w' = wp.drew) := by rw [hce]; exact sCount fa fn fc L e' _ (HFr.out.below HBd.out)
        obtain ⟨T, hT⟩ : ∃ T, T = M.tokF L ((j : Int), (e' : Int), p2, p3) := ⟨_, rfl⟩
        have hT2 : T = p3 + (cj : Int) - (ce : Int) := by rw [hT, hcj, hce]; rfl
        rw [← hT] at hNx
        have HN := Lib.hid hNx
        have hw1 : wrap64 (p3 + (cj : Int)) = p3 + (cj : Int) := IntWalk.wrap64_in _ ⟨by omega, by omega⟩
        have hw1' : IntKind.i64.wrap (p3 + (cj : Int)) = p3 + (cj : Int) := IntWalk.i64_in _ (by omega)
        have hw2 : wrap64 (p3 + (cj : Int) - (ce : Int)) = T := by rw [IntWalk.wrap64_in _ ⟨by omega, by omega⟩]; omega
        have hw2' : IntKind.i64.wrap (p3 + (cj : Int) - (ce : Int)) = T := by rw [IntWalk.i64_in _ (by omega)]; omega
        have HWp := Lib.hid hwp.symm
        clear hNx hp hbp hwp hcj hce hT hT2 HO HGr
        have HBa : Hid (Below wp.heap.size wp (wp.drew.alloc (.cells #[.int .i64 T] 2))) := (b_draws wp 1).alloc (by show _ ≤ wp.heap.size; exact Nat.le_refl _) _
        have HOa : Hid (Own (wp.drew.alloc (.cells #[.int .i64 T] 2)) (w.heap.size + 1) (.slice b k c) (M.mrkL l L k)) := HOp.out.below (b_alloc wp.drew _)
        have HCa : Hid ((wp.drew.alloc (.cells #[.int .i64 T] 2)).cell? ⟨wp.heap.size, 0, none⟩ = some (.int .i64 T)) := by show _ = _; simp [go_sem]
        have hsza : w.heap.size + 1 ≤ (wp.drew.alloc (.cells #[.int .i64 T] 2)).heap.size := Nat.le_trans hszp (by rw [World.size_alloc]; omega)
        have HS0 : Hid (∀ w', Below wp.heap.size wp w' → w'.cell? ⟨wo.heap.size, 0, none⟩ = some (.int .i64 j) ∧ w'.cell? ⟨wo.heap.size, 1, none⟩ = some (.int .i64 e') ∧ w'.cell? ⟨wo.heap.size, 3, none⟩ = some (.int .i64 p3) ∧ True) := fun w' hb => ⟨(hb.cell (cell_lt x0)).trans x0, (hb.cell (cell_lt x1)).trans x1, (hb.cell (cell_lt x3)).trans x3, trivial⟩
        have hwo : wo.heap.size < wp.heap.size := cell_lt x0
        go_wp2
        rw [HWp.out]
        clear g0 g1 x0 x1 x3 c0 c1 c2 c3
        refine wp_region_held_drew (S := fun w' => w'.cell? ⟨wo.heap.size, 0, none⟩ = some (.int .i64 j) ∧ w'.cell? ⟨wo.heap.size, 1, none⟩ = some (.int .i64 e') ∧ w'.cell? ⟨wo.heap.size, 3, none⟩ = some (.int .i64 p3) ∧ True) (by kernel_rfl) ?_ (fun hHeld => ?_)
        · exact HS0.out _ (b_draws wp 1)
        refine wpAnyH_take (i := 0) (v := ?vm0) rfl (by kernel_rfl) (by kernel_rfl) (by kernel_rfl) (fun _ _ _ h => h) (Or.inl ⟨by rfl, ?hym0⟩) (by assumption) ?restm0
        case hym0 => (intro wy hSw; (try dsimp only at hSw); obtain ⟨s0, s1, s2, s3⟩ := hSw; go_simp; try with_reducible rfl)
        (try simp only [Act.put, List.getElem_toArray, List.getElem_cons_zero, List.getElem_cons_succ, List.setIfInBounds_toArray, List.set_cons_zero, List.set_cons_succ])
        refine wpAnyH_take (i := 1) (v := ?vm1) rfl (by kernel_rfl) (by kernel_rfl) (by kernel_rfl) (fun _ _ _ h => h) (Or.inl ⟨by rfl, ?hym1⟩) (by assumption) ?restm1
        case hym1 => (intro wy hSw; (try dsimp only at hSw); obtain ⟨s0, s1, s2, s3⟩ := hSw; go_simp; try with_reducible rfl)
        (try simp only [Act.put, List.getElem_toArray, List.getElem_cons_zero, List.getElem_cons_succ, List.setIfInBounds_toArray, List.set_cons_zero, List.set_cons_succ])
        refine wpAnyH_take (i := 2) (v := ?vm2) rfl (by kernel_rfl) (by kernel_rfl) (by kernel_rfl) (fun _ _ _ h => h) (Or.inl ⟨by rfl, ?hym2⟩) (by assumption) ?restm2
        case hym2 => (intro wy hSw; (try dsimp only at hSw); obtain ⟨s0, s1, s2, s3⟩ := hSw; go_simp; try with_reducible rfl)
        (try simp only [Act.put, List.getElem_toArray, List.getElem_cons_zero, List.getElem_cons_succ, List.setIfInBounds_toArray, List.set_cons_zero, List.set_cons_succ])
        refine wpAnyH_take (i := 3) (v := ?vm3) rfl (by kernel_rfl) (by kernel_rfl) (by kernel_rfl) (fun _ _ _ h => h) (Or.inl ⟨by rfl, ?hym3⟩) (by assumption) ?restm3
        case hym3 => (intro wy hSw; (try dsimp only at hSw); obtain ⟨s0, s1, s2, s3⟩ := hSw; go_simp; try with_reducible rfl)
        (try simp only [Act.put, List.getElem_toArray, List.getElem_cons_zero, List.getElem_cons_succ, List.setIfInBounds_toArray, List.set_cons_zero, List.set_cons_succ])
        refine wpAnyH_take (i := 4) (v := ?vm4) rfl (by kernel_rfl) (by kernel_rfl) (by kernel_rfl) (fun _ _ _ h => h) (Or.inl ⟨by rfl, ?hym4⟩) (by assumption) ?restm4
        case hym4 => (intro wy hSw; (try dsimp only at hSw); obtain ⟨s0, s1, s2, s3⟩ := hSw; go_simp; try with_reducible rfl)
        (try simp only [Act.put, List.getElem_toArray, List.getElem_cons_zero, List.getElem_cons_succ, List.setIfInBounds_toArray, List.set_cons_zero, List.set_cons_succ])
        refine wpAnyH_take (i := 5) (v := ?vm5) rfl (by kernel_rfl) (by kernel_rfl) (by kernel_rfl) (fun _ _ _ h => h) (Or.inl ⟨by rfl, ?hym5⟩) (by assumption) ?restm5
        case hym5 => (intro wy hSw; (try dsimp only at hSw); obtain ⟨s0, s1, s2, s3⟩ := hSw; go_simp; try with_reducible rfl)
        (try simp only [Act.put, List.getElem_toArray, List.getElem_cons_zero, List.getElem_cons_succ, List.setIfInBounds_toArray, List.set_cons_zero, List.set_cons_succ])
        refine wpAnyH_take (i := 8) (v := ?vm8) rfl (by kernel_rfl) (by kernel_rfl) (by kernel_rfl) (fun _ _ _ h => h) (Or.inl ⟨by rfl, ?hym8⟩) (by assumption) ?restm8
        case hym8 => (intro wy hSw; (try dsimp only at hSw); obtain ⟨s0, s1, s2, s3⟩ := hSw; go_simp; try with_reducible rfl)
        (try simp only [Act.put, List.getElem_toArray, List.getElem_cons_zero, List.getElem_cons_succ, List.setIfInBounds_toArray, List.set_cons_zero, List.set_cons_succ])
        refine wpAnyH_take (i := 9) (v := ?vm9) rfl (by kernel_rfl) (by kernel_rfl) (by kernel_rfl) (fun _ _ _ h => h) (Or.inl ⟨by rfl, ?hym9⟩) (by assumption) ?restm9
        case hym9 => (intro wy hSw; (try dsimp only at hSw); obtain ⟨s0, s1, s2, s3⟩ := hSw; go_simp; try with_reducible rfl)
        (try simp only [Act.put, List.getElem_toArray, List.getElem_cons_zero, List.getElem_cons_succ, List.setIfInBounds_toArray, List.set_cons_zero, List.set_cons_succ])
        refine wpAnyH_take (i := 10) (v := ?vm10) rfl (by kernel_rfl) (by kernel_rfl) (by kernel_rfl) (fun _ _ _ h => h) (Or.inl ⟨by rfl, ?hym10⟩) (by assumption) ?restm10
        case hym10 => (intro wy hSw; (try dsimp only at hSw); obtain ⟨s0, s1, s2, s3⟩ := hSw; go_simp; try with_reducible rfl)
        (try simp only [Act.put, List.getElem_toArray, List.getElem_cons_zero, List.getElem_cons_succ, List.setIfInBounds_toArray, List.set_cons_zero, List.set_cons_succ])
        refine wpAnyH_ready (rs := [6]) (by kernel_rfl) (by simp) (AllReadyH.cons rfl (fun K hK => ?_) AllReadyH.nil)
        go_simp
        refine (HA1.out).mono ?_
        rintro e w' ⟨rfl, rfl⟩
        refine hK.out _ _ (HS0.out _ (b_draws wp 1)) (fun hHeld => ?_)
        clear hK K
        (try simp only [Act.put, List.getElem_toArray, List.getElem_cons_zero, List.getElem_cons_succ, List.setIfInBounds_toArray, List.set_cons_zero, List.set_cons_succ])
        refine wpAnyH_take (i := 7) (v := ?vm7) rfl (by kernel_rfl) (by kernel_rfl) (by kernel_rfl) (fun _ _ _ h => h) (Or.inl ⟨by rfl, ?hym7⟩) (by assumption) ?restm7
        case hym7 => (intro wy hSw; (try dsimp only at hSw); obtain ⟨s0, s1, s2, s3⟩ := hSw; go_simp; try with_reducible rfl)
        (try simp only [Act.put, List.getElem_toArray, List.getElem_cons_zero, List.getElem_cons_succ, List.setIfInBounds_toArray, List.set_cons_zero, List.set_cons_succ])
        refine wpAnyH_ready (rs := [11]) (by kernel_rfl) (by simp) (AllReadyH.cons rfl (fun K hK => ?_) AllReadyH.nil)
        go_simp
        refine (HA2.out).mono ?_
        rintro e w' ⟨rfl, rfl⟩
        refine hK.out _ _ (HS0.out _ (b_draws wp 1)) (fun hHeld => ?_)
        clear hK K
        (try simp only [Act.put, List.getElem_toArray, List.getElem_cons_zero, List.getElem_cons_succ, List.setIfInBounds_toArray, List.set_cons_zero, List.set_cons_succ])
        refine wpAnyH_take (i := 12) (v := ?vm12) rfl (by kernel_rfl) (by kernel_rfl) (by kernel_rfl) (fun _ _ _ h => h) (Or.inl ⟨by rfl, ?hym12⟩) (by assumption) ?restm12
        case hym12 => (intro wy hSw; (try dsimp only at hSw); obtain ⟨s0, s1, s2, s3⟩ := hSw; go_simp; try with_reducible rfl)
        (try simp only [Act.put, List.getElem_toArray, List.getElem_cons_zero, List.getElem_cons_succ, List.setIfInBounds_toArray, List.set_cons_zero, List.set_cons_succ])
        refine wpAnyH_ready (rs := [13]) (by kernel_rfl) (by simp) (AllReadyH.cons rfl (fun K hK => ?_) AllReadyH.nil)
        go_simp
        refine hK.out _ _ (HS0.out _ HBa.out) (fun hHeld => ?_)
        clear hK K
        (try simp only [Act.put, List.getElem_toArray, List.getElem_cons_zero, List.getElem_cons_succ, List.setIfInBounds_toArray, List.set_cons_zero, List.set_cons_succ])
        refine wpAnyH_ready (rs := [14]) (by kernel_rfl) (by simp) (AllReadyH.cons rfl (fun K hK => ?_) AllReadyH.nil)
        refine step_append3F _ rfl (.tmp 29) (.tmp 42) rfl (w.heap.size + 1) _ _ _ _ k HKl.out rfl HOa.out rfl HCa.out (by omega) hsza ?_
        intro b2 c2' w4 hO2 hb2 hk2 hat2
        have hwa : wo.heap.size < (wp.drew.alloc (.cells #[.int .i64 T] 2)).heap.size := Nat.lt_of_lt_of_le hwo HBa.out.size
        have e5 := hk2 wo.heap.size hwa (fun q => absurd (HLt.out _ q) (by omega))
        obtain ⟨s0, s1, s2, -⟩ := HS0.out _ HBa.out
        have HS5 : Hid (w4.cell? ⟨wo.heap.size, 0, none⟩ = some (.int .i64 j) ∧ w4.cell? ⟨wo.heap.size, 1, none⟩ = some (.int .i64 e') ∧ w4.cell? ⟨wo.heap.size, 3, none⟩ = some (.int .i64 p3) ∧ True) := ⟨(World.cell?_of_block (a := ⟨wo.heap.size, 0, none⟩) e5).trans s0, (World.cell?_of_block (a := ⟨wo.heap.size, 1, none⟩) e5).trans s1, (World.cell?_of_block (a := ⟨wo.heap.size, 3, none⟩) e5).trans s2, trivial⟩
        clear s0 s1 s2 e5
        refine hK.out _ _ HS5.out (fun hHeld => ?_)
        clear hK K
        (try simp only [Act.put, List.getElem_toArray, List.getElem_cons_zero, List.getElem_cons_succ, List.setIfInBounds_toArray, List.set_cons_zero, List.set_cons_succ])
        refine wpAnyH_ready (rs := [15]) (by kernel_rfl) (by simp) (AllReadyH.cons rfl (fun K hK => ?_) AllReadyH.nil)
        go_simp
        refine hK.out _ _ HS5.out (fun hHeld => ?_)
        clear hK K
        (try simp only [Act.put, List.getElem_toArray, List.getElem_cons_zero, List.getElem_cons_succ, List.setIfInBounds_toArray, List.set_cons_zero, List.set_cons_succ])
        refine wpAnyH_done (by kernel_rfl) ?_ _
        rw [← HN.out] at hO2
        have HO4 := Lib.hid hO2
        have HB4 := Lib.hid ((HBd.out.trans ((b_alloc wp.drew (.cells #[.int .i64 T] 2)).mono HBd.out.size)).trans (hb2.mono (by omega)))
        have HG4 : Hid (GBox w4 w.heap.size N (some ⟨pb, off, none⟩) n cap) := by
          have hlt : w.heap.size < (wp.drew.alloc (.cells #[.int .i64 T] 2)).heap.size := by omega
          have hne : (Value.slice b k c).ownBlock ≠ some w.heap.size := fun q => absurd (own_lt HOp.out q).1 (by omega)
          have e := hk2 w.heap.size hlt hne
          have hg := HGp.out.below (b_alloc wp.drew (.cells #[.int .i64 T] 2))
          exact ⟨(World.cell?_of_block (a := ⟨w.heap.size, 0, none⟩) e).trans hg.1, (World.cell?_of_block (a := ⟨w.heap.size, 1, none⟩) e).trans hg.2⟩
        clear hO2 hb2 hk2 hat2
        go_wp2
        go_roundw
        case rel => exact ⟨k + 1, _, _, by omega, by go_num, rfl, HO4, HG4, HB4⟩
        case measure => simp [intOf]; omega
      · obtain rfl : k = n := by omega
        have HOf := Lib.hid (HO.out.mono (Nat.le_succ w.heap.size))
        go_wp2
        go_ret2
        rw [HR.out]
        exact ⟨_, _, _, rfl, HOf.out, HB.out⟩
  · have h0' : (C != 0) = true := by simpa using h0
    have HR : Hid (M.mrkRes x l L = ([], C)) := M.mrkRes_no HCe.out.symm h0
    clear h0
    go_enter Try.func28, Try.ntmps28
    go_wp2_with fail
    rw [← hwb]
    clear hwb
    refine (HS.out).mono ?_
    rintro z w1 ⟨rfl, hb1⟩
    have HB1 := Lib.hid (HB0.out.trans (hb1.mono HB0.out.size))
    clear hb1
    go_wp2
    go_ret2
    exact VRes.nil HR.out HB1.out
set_option maxRecDepth 100000 in
set_option maxHeartbeats 4000000 in
theorem markingAfter (x : Int) (a : Option Addr) (n cap : Nat) (l : List M.Pc) (fa : Option Addr) (fn fc : Nat) (L : List M.Fr) (w : World) (h : Pls w a n l) (hf : Frs w fa fn L) :
    Calls Try.prog 29 #[.agg #[.int .i64 x, .slice a n cap], .slice fa fn fc] w (VRes (M.mrkRes x l L) w) := by
  have HI := Lib.hid h
  have HL : Hid (l.length = n) := h.1
  have hb0 := b_alloc w (.cells #[.int .i64 x, .slice a n cap] 41)
  have hGb := gBox_new w x a n cap 41
  obtain ⟨wb, hwb⟩ : ∃ z, z = w.alloc (.cells #[.int .i64 x, .slice a n cap] 41) := ⟨_, rfl⟩
  rw [← hwb] at hb0 hGb
  have HB0 := Lib.hid hb0
  have HGb := Lib.hid hGb
  have HC : Hid (Calls Try.prog 72 #[.agg #[.int .i64 x, .slice a n cap], .slice fa fn fc] wb (HPost x l L wb)) := historyOf x a n cap l fa fn fc L wb (h.below hb0) (hf.below hb0)
  obtain ⟨C, hC⟩ : ∃ C, C = M.rcode x l L := ⟨_, rfl⟩
  unfold HPost at HC
  rw [← hC] at HC
  have HCe := Lib.hid hC
  clear h hf hb0 hGb hC
  by_cases h0 : C = 0
  · subst h0
    go_enter Try.func29, Try.ntmps29
    go_wp2_with fail
    rw [← hwb]
    clear hwb
    refine (HC.out).mono ?_
    rintro z w1 ⟨hb1, v, rfl, -, hy⟩
    obtain ⟨N, g, tc, rfl, hg, hl5, hrun, rfl, ho⟩ := hy (by first | rfl | trivial)
    have HG := Lib.hid hg
    obtain ⟨n1, n2, hl30⟩ := gr_NF hg
    have hn30 : n ≤ 30 := by rw [HL.out] at hl30; exact hl30
    have HL5 := Lib.hid hl5
    have HR : Hid (M.mrkRes N l L = (M.mrkL l L n, 0)) := by show _ = _; rw [M.mrkRes_yes HCe.out.symm, HL.out]
    have HB1 := Lib.hid (HB0.out.trans (hb1.mono HB0.out.size))
    have HM := Lib.hid ho.mat
    obtain ⟨g0, g1⟩ := HGb.out.below hb1
    have hO0 : Hid (Own w1 w1.heap.size (.slice none 0 0) (M.mrkL l L 0)) := own_nil _ _
    clear hb1 hy hg hl5 hrun ho HC hl30
    go_wp2
    clear g0 g1
    go_loopw [8, 23] (fun lv kv wr => ∃ (k : Nat) (b : Option Addr) (c : Nat), k ≤ n ∧ kv = .int .i64 k ∧ lv = .slice b k c ∧ Hid (Own wr w1.heap.size (.slice b k c) (M.mrkL l L k)) ∧ Hid (Below w1.heap.size w1 wr)) (fun _ kv _ => n - (intOf kv).toNat)
    case atStart => exact ⟨0, _, _, Nat.zero_le _, rfl, rfl, hO0, Below.refl _ _⟩
    case round =>
      obtain ⟨k, b, c, hk, rfl, rfl, HO, HB⟩ := hrel
      obtain ⟨wo, rfl⟩ : ∃ x, x = wr := ⟨_, rfl⟩
      clear hO0
      by_cases hkl : k < n
      · have hki : (k : Int) < (n : Int) := by omega
        have HKl : Hid ((M.mrkL l L k).length = k) := M.mrkL_len l L (by rw [HL.out]; omega)
        have HBw := Lib.hid (HB1.out.trans (HB.out.mono HB1.out.size))
        obtain ⟨pb, off, p0, p1, p2, p3, rfl, -, hp, c0, c1, c2, c3⟩ := (HI.out.below HBw.out).at k hkl
        obtain ⟨e', j, he', hj, rfl, rfl, t2, t2', t3, t3'⟩ := gr_atF HG.out (by rw [HL.out]; exact hkl) hp
        have hNx := M.mrkL_next l L (k := k) (by rw [HL.out]; exact hkl)
        rw [hp] at hNx
        have hbp : Below wo.heap.size wo (wo.alloc (.cells #[.int .i64 j, .int .i64 e', .int .i64 p2, .int .i64 p3] 52)) := b_alloc wo _
        have hcall := tokensIn N (some ⟨g, 0, none⟩) tc L j e' p2 p3 (wo.alloc (.cells #[.int .i64 j, .int .i64 e', .int .i64 p2, .int .i64 p3] 52)) ((HM.out.below HB.out).below hbp) hj he' n2 HL5.out ⟨t3, t3'⟩
        obtain ⟨T, hT⟩ : ∃ T, T = M.tokF L ((j : Int), (e' : Int), p2, p3) := ⟨_, rfl⟩
        rw [← hT] at hNx hcall
        have HN := Lib.hid hNx
        have HCa := Lib.hid hcall
        have HBp := Lib.hid hbp
        clear hNx hp hbp hT hcall
        go_wp2_with fail
        refine (HCa.out).mono ?_
        rintro z w3 ⟨rfl, hb3⟩
        have hb3' : Below wo.heap.size wo w3 := HBp.out.trans (hb3.mono HBp.out.size)
        have HO3 := Lib.hid (HO.out.below hb3')
        have HB3 := Lib.hid (HB.out.trans (hb3'.mono HB.out.size))
        have hsz3 := HB3.out.size
        clear hb3 hb3' HO HCa HBp
        go_wp2_with (at_builtin; refine append1 _ rfl (.tmp 27) (.tmp 31) rfl w1.heap.size _ _ _ k HKl.out rfl HO3.out rfl (by rw [HKl.out]; omega) hsz3 ?_)
        intro b2 c2' w4 hO2 hb2 _
        rw [← HN.out] at hO2
        have HO4 := Lib.hid hO2
        have HB4 := Lib.hid (HB3.out.trans hb2)
        clear hO2 hb2
        go_wp2
        go_roundw
        case rel => exact ⟨k + 1, _, _, by omega, by go_num, rfl, HO4, HB4⟩
        case measure => simp [intOf]; omega
      · obtain rfl : k = n := by omega
        have HOf := Lib.hid (HO.out.mono HB1.out.size)
        have HBf := Lib.hid (HB1.out.trans (HB.out.mono HB1.out.size))
        go_wp2
        go_ret2
        rw [HR.out]
        exact ⟨_, _, _, rfl, HOf.out, HBf.out⟩
  · have h0' : (C != 0) = true := by simpa using h0
    have HR : Hid (M.mrkRes x l L = ([], C)) := M.mrkRes_no HCe.out.symm h0
    go_enter Try.func29, Try.ntmps29
    go_wp2_with fail
    rw [← hwb]
    clear hwb
    refine (HC.out).mono ?_
    rintro z w1 ⟨hb1, v, rfl, hn, -⟩
    obtain rfl := hn (by first | exact h0 | trivial)
    have HB1 := Lib.hid (HB0.out.trans (hb1.mono HB0.out.size))
    clear hb1 hn h0
    go_wp2
    go_ret2
    exact VRes.nil HR.out HB1.out
end V
end Go.Proofs.Ytjbffpmelglegaa
